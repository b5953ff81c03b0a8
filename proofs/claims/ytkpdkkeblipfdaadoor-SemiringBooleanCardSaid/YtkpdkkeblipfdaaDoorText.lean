/-
  The decimal text of 1.
-/
import Derived.Test.YtkpdkkeblipfdaaDoorOne
import Derived.Lib.AppendStr
import Derived.Lib.ConvBytes
import Derived.Laws.IdiomStrings
set_option linter.unusedSimpArgs false
set_option linter.unusedVariables false
namespace Go.Proofs.YtkpdkkeblipfdaaDoor.nat
open Go.RowKit Go.Own
set_option maxHeartbeats 400000
set_option maxRecDepth 100000

theorem u8Info : (Tryd.prog.info? 5).map (fun i => (i.zero, i.size, i.bytes)) = some (some (.int .u8 0), 1, 1) := by kernel_rfl

theorem small_one (w : World) :
    Calls Tryd.prog 85 #[.int .i64 1] w fun e w' => e = .returned (.string ⟨#[49]⟩) ∧ ∃ x, w' = beyond w x := by
  go_enter Tryd.func85, Tryd.ntmps85
  go_wp2
  go_ret
  exact ⟨rfl, beyond_of (by repeat (first | assumption | exact Below.refl _ _ | exact below_beyond _ _ | refine Below.beyond ?_ (by (try simp [size_beyond]) <;> omega) _ | refine Below.drew ?_ | refine Below.alloc ?_ (by (try simp [size_beyond]) <;> omega) _ | refine Below.setCell ?_ (by (try simp [size_beyond]) <;> omega) _))⟩

theorem appendUint_one (w : World) :
    Calls Tryd.prog 82 #[.slice none 0 0, .int .u64 1, .int .i64 10] w fun e w' => ∃ g c, e = .returned (.slice (some ⟨g, 0, none⟩) 1 c) ∧ 1 ≤ c ∧ c ≤ maxLen ∧ w'.cell? ⟨g, 0, none⟩ = some (.int .u8 49) ∧ g < w'.heap.size ∧ ∃ x, w' = beyond w x := by
  obtain ⟨i0, hi, hz0, hz1, hz2⟩ := info_parts u8Info
  have Hi := Lib.hid hi; clear hi
  go_enter Tryd.func82, Tryd.ntmps82
  go_wp2_with (first | (go_at_call 85; refine (small_one _).mono ?_; rintro e w1 ⟨rfl, x1, rfl⟩) | (at_builtin; refine Lib.wpList_append_own_string _ rfl _ _ 123 9 rfl w.heap.size 5 i0 Tryd.underlying123 Tryd.underlying9 Hi.out hz0 hz1 hz2 _ 0 [] rfl (World.ownsRow_nil _ _ _ _) ⟨#[49]⟩ rfl (by decide) (by decide) (by simp [size_beyond]; try omega) ?_))
  intro v' w' hown hgr hne
  have hbl : Below w.heap.size w w' := (below_beyond w x1).grown hgr (by simp [size_beyond]) (fun r hr => by simp [Value.ownBlock] at hr)
  obtain ⟨g, c, rfl, hg, hcell, hc1, hc2⟩ : ∃ (g c : Nat), v' = .slice (some ⟨g, 0, none⟩) 1 c ∧ g < w'.heap.size ∧ w'.cell? ⟨g, 0, none⟩ = some (.int .u8 49) ∧ 1 ≤ c ∧ c ≤ maxLen := by
    have hcell := fun g hg => World.ownsRow.cells hown (g := g) hg 0 (.int .u8 49) (by rfl)
    rcases hown.2 with ⟨h, _⟩ | ⟨g, cap, cur, rfl, hb, hgg, hn, hcm, hs, ht⟩
    · exact absurd h hne
    · exact ⟨g, cap, rfl, (Array.getElem?_eq_some_iff.1 hgg).1, hcell g rfl, hn, hcm⟩
  clear hown hgr hne
  obtain ⟨x2, rfl⟩ := beyond_of hbl
  have HG := Lib.hid hg; clear hg
  have HC := Lib.hid hcell; clear hcell
  have HM := Lib.hid hc2; clear hc2
  go_wp2
  go_ret
  exact ⟨g, c, rfl, hc1, HM.out, HC.out, HG.out, _, rfl⟩

theorem appendUint_calls (w : World) :
    Calls Tryd.prog 77 #[.slice none 0 0, .int .u64 1, .int .i64 10] w fun e w' => ∃ g c, e = .returned (.slice (some ⟨g, 0, none⟩) 1 c) ∧ 1 ≤ c ∧ c ≤ maxLen ∧ w'.cell? ⟨g, 0, none⟩ = some (.int .u8 49) ∧ g < w'.heap.size ∧ ∃ x, w' = beyond w x := by
  go_enter Tryd.func77, Tryd.ntmps77
  go_wp2_with ((go_at_call 82; refine (appendUint_one _).mono ?_))
  rintro e w1 ⟨g, c, rfl, hc1, hc2, hc3, hg, x1, rfl⟩
  have HG := Lib.hid hg; clear hg
  have HC := Lib.hid hc3; clear hc3
  have HM := Lib.hid hc2; clear hc2
  go_wp2
  go_ret
  exact ⟨g, c, rfl, hc1, HM.out, HC.out, HG.out, _, rfl⟩

theorem isZero_row (p : Addr) (c : Nat) (w : World) :
    Calls Tryd.prog 19 #[.agg #[.slice (some p) 1 c]] w fun e w' => e = .returned (.bool false) ∧ ∃ x, w' = beyond w x := by
  go_enter Tryd.func19, Tryd.ntmps19
  go_wp2
  go_ret
  exact ⟨rfl, beyond_of (by repeat (first | assumption | exact Below.refl _ _ | exact below_beyond _ _ | refine Below.beyond ?_ (by (try simp [size_beyond]) <;> omega) _ | refine Below.drew ?_ | refine Below.alloc ?_ (by (try simp [size_beyond]) <;> omega) _ | refine Below.setCell ?_ (by (try simp [size_beyond]) <;> omega) _))⟩
theorem isZero_nil (w : World) :
    Calls Tryd.prog 19 #[.agg #[.slice none 0 0]] w fun e w' => e = .returned (.bool true) ∧ ∃ x, w' = beyond w x := by
  go_enter Tryd.func19, Tryd.ntmps19
  go_wp2
  go_ret
  exact ⟨rfl, beyond_of (by repeat (first | assumption | exact Below.refl _ _ | exact below_beyond _ _ | refine Below.beyond ?_ (by (try simp [size_beyond]) <;> omega) _ | refine Below.drew ?_ | refine Below.alloc ?_ (by (try simp [size_beyond]) <;> omega) _ | refine Below.setCell ?_ (by (try simp [size_beyond]) <;> omega) _))⟩

theorem string_one {w : World} {b off c : Nat} (hc : 1 ≤ c) (hc2 : c ≤ maxLen) (hb : b < w.heap.size) (hx : w.cell? ⟨b, off, none⟩ = some (.int .u32 1)) :
    Calls Tryd.prog 64 #[.agg #[.slice (some ⟨b, off, none⟩) 1 c]] w fun e w' => e = .returned (.string ⟨#[49]⟩) ∧ ∃ x, w' = beyond w x := by
  have hin : inW b w = true := inW_iff.2 hb
  have HM := Lib.hid hc2
  have hc3 := hc2
  unfold maxLen at hc3
  obtain ⟨i0, hi, hz0, hz1, hz2⟩ := info_parts u32Info
  have Hi := Lib.hid hi; clear hi
  go_enter Tryd.func64, Tryd.ntmps64
  go_wp2_with ((go_at_call 19; refine (isZero_row _ _ _).mono ?_; rintro e w1 ⟨rfl, x1, rfl⟩))
  refine wp_loop_rounds 2 ?_
  simp only [Code.rounds]
  go_wp2_with (first | (go_at_call 76; refine (divSmall_one hc HM.out ?hs ?hx).mono ?_) | (go_at_call 19; first | (refine (isZero_row _ _ _).mono ?_; rintro e w1 ⟨rfl, x3, rfl⟩) | (refine (isZero_nil _).mono ?_; rintro e w1 ⟨rfl, x4, rfl⟩)))
  case hs => simp [size_beyond]; omega
  case hx => simp [go_sem, hin, hx]
  rintro e w1 ⟨rfl, x2, rfl⟩
  go_wp2_with (first | (go_at_call 19; refine (isZero_nil _).mono ?_; rintro e w1 ⟨rfl, x4, rfl⟩) | (at_builtin; refine wpList_append_own _ rfl _ _ 28 rfl w.heap.size 26 i0 (.int .u32 0) 1 4 Tryd.underlying28 Hi.out hz0 hz1 hz2 rfl (by omega) _ 0 [] rfl (World.ownsRow_nil _ _ _ _) _ 1 1 [.int .u32 1] rfl rfl ?hnew ?hone (by decide) (by decide) ?hbase ?_))
  case hnew => exact new_cell _ _
  case hone => exact new_one _ _
  case hbase => simp [size_beyond]; omega
  intro v' w' hown hgr _
  have hbl : Below w.heap.size w w' := Below.grown (by repeat (first | assumption | exact Below.refl _ _ | exact below_beyond _ _ | refine Below.beyond ?_ (by (try simp [size_beyond]) <;> omega) _ | refine Below.drew ?_ | refine Below.alloc ?_ (by (try simp [size_beyond]) <;> omega) _ | refine Below.setCell ?_ (by (try simp [size_beyond]) <;> omega) _)) hgr (by simp [size_beyond]; omega) (fun r hr => by simp [Value.ownBlock] at hr)
  obtain ⟨x5, hx5⟩ := grown_is hgr
  obtain ⟨g, c', rfl, hc1, hcm, hg, -, hcell⟩ := row_one hown
  have h4c : w'.cell? ⟨(beyond (w.alloc (.cells #[.slice (some ⟨b, off, none⟩) 1 c] 30)) x1).heap.size, 0, none⟩ = some (.slice none 0 0) := by rw [hx5]; simp [go_sem]
  have h4b : blockOf w' (beyond (w.alloc (.cells #[.slice (some ⟨b, off, none⟩) 1 c] 30)) x1).heap.size = some (.cells #[.slice none 0 0] 30) := by rw [hx5]; simp [go_sem]
  have h4i : inW (beyond (w.alloc (.cells #[.slice (some ⟨b, off, none⟩) 1 c] 30)) x1).heap.size w' = true := by rw [hx5]; simp [go_sem]
  have hgi : inW g w' = true := inW_iff.2 hg
  clear hown hgr hx5
  generalize (beyond (w.alloc (.cells #[.slice (some ⟨b, off, none⟩) 1 c] 30)) x1).heap.size = g4 at h4c h4b h4i ⊢
  unfold maxLen at hcm
  go_wp2_with (first | (go_at_call 19; refine (isZero_nil _).mono ?_; rintro e w1 ⟨rfl, x6, rfl⟩) | (go_at_call 77; refine (appendUint_calls _).mono ?_))
  rintro e w2 ⟨g', c2, rfl, hd1, hd2, hd3, hd4, x7, rfl⟩
  have HG := Lib.hid hd4; clear hd4
  have HC := Lib.hid hd3; clear hd3
  unfold maxLen at hd2
  go_wp2
  refine wp_loop_rounds 1 ?_
  simp only [Code.rounds]
  have hconv : (convert 123 9 (.slice (some ⟨g', 0, none⟩) 1 c2)).run Tryd.prog (beyond (beyond (w'.alloc (.cells #[.slice none 0 0] 30)) x6) x7) = .ok (.string ⟨#[49]⟩) (beyond (beyond (w'.alloc (.cells #[.slice none 0 0] 30)) x6) x7) := by
    have := run_convert_bytes_back (P := Tryd.prog) (beyond (beyond (w'.alloc (.cells #[.slice none 0 0] 30)) x6) x7) 123 9 5 ⟨g', 0, none⟩ c2 [49] Tryd.underlying123 Tryd.underlying5 Tryd.underlying9
    exact this (by intro i hi; obtain rfl : i = 0 := by simpa using hi
                   simpa [Addr.add] using HC.out)
  go_wp2
  go_ret
  have hsz := hbl.size
  exact ⟨rfl, beyond_of (by repeat (first | assumption | exact Below.refl _ _ | exact below_beyond _ _ | refine Below.beyond ?_ (by (try simp [size_beyond]) <;> omega) _ | refine Below.drew ?_ | refine Below.alloc ?_ (by (try simp [size_beyond]) <;> omega) _ | refine Below.setCell ?_ (by (try simp [size_beyond]) <;> omega) _))⟩
end Go.Proofs.YtkpdkkeblipfdaaDoor.nat
