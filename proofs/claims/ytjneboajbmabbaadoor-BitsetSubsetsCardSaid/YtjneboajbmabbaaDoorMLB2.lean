/-
  The reference's list of all subsets.
-/
import Derived.Test.YtjneboajbmabbaaDoorMB1
import Derived.Test.YtjneboajbmabbaaDoorMB2
import Derived.Test.YtjneboajbmabbaaDoorMLB1
import Derived.Test.YtjneboajbmabbaaDoorCards
import Derived.Test.YtjneboajbmabbaaDoorTie
import Derived.Test.YtjneboajbmabbaaDoorCanAG
import Derived.WalkKit
import Derived.ProofKit
import Derived.OpenShut
import Derived.Deep.DeepHandedRow
import Derived.Laws.AppendOwnNone
set_option linter.unusedSimpArgs false
set_option linter.unusedVariables false
namespace Go.Proofs.YtjneboajbmabbaaDoor.bitsetSubsets
open Go.ChangeShapes Go.WideShapes Go.ChangeAt Go.RowKit Go.Joins Go.Own

theorem own : ownKnob Tryd.prog.godebug = none := by kernel_rfl
theorem pc : Can.PC2 Tryd.prog := .of_bool (by kernel_rfl)
noncomputable def tab : Nat → Array Value
  | 0 => Can.tabCells Rows.laid_math_bits_deBruijn64tab
  | 1 => Can.tabCells Rows.laid_internal_strconv_uint64pow10
  | 2 => Can.tabCells Rows.laid_math_bits_deBruijn32tab
  | _ => #[]
noncomputable def H0 (T : Nat → TypeId) : Array Obj := #[.cells (tab 0) (T 0), .cells (tab 1) (T 1), .cells (tab 2) (T 2)]
theorem tabAt (T : Nat → TypeId) (g : Nat) (hg : g ∈ ([0, 1, 2] : List Nat)) : (H0 T)[g]? = some (.cells (tab g) (T g) (0, 0)) := by
  simp only [List.mem_cons, List.not_mem_nil, or_false] at hg
  rcases hg with rfl | rfl | rfl
  all_goals rfl
theorem tabPlain (g : Nat) (hg : g ∈ ([0, 1, 2] : List Nat)) : (tab g).all (Can.plainV 60) = true := by
  simp only [List.mem_cons, List.not_mem_nil, or_false] at hg
  rcases hg with rfl | rfl | rfl
  all_goals kernel_rfl
set_option maxRecDepth 100000 in
theorem knownTrue (T : Nat → TypeId) : Can.evTrue (Can.evS Tryd.prog [0, 1, 2] (Can.noSm) 3000 (.call 24 #[]) (Can.AW.start (H0 T))) = true := by kernel_rfl
noncomputable def sm : Can.RecD := Can.orSmD (Can.liftSm (Can.knownSm 24 tab [0, 1, 2])) (Can.liftSm (Can.noSm))
theorem sums : Can.RecOkD Tryd.prog [0, 1, 2] sm := Can.orSmD_ok (Can.liftSm_ok (Can.knownSm_ok pc (Can.noSm_ok) tabAt tabPlain knownTrue)) (Can.liftSm_ok (Can.noSm_ok))
theorem known {W : World} (hL : laidMetH Tryd.prog Rows.bitsetSubsetsRow.laid W) : Can.Known (H0 (Can.tyAt W)) (Can.onG [0, 1, 2]) W := by
  refine Can.known_onG fun g hg => ?_
  simp only [List.mem_cons, List.not_mem_nil, or_false] at hg
  rcases hg with rfl | rfl | rfl
  · exact ⟨tab 0, Can.tyAt W 0, rfl, Can.laid_tab hL (by kernel_rfl) (List.mem_of_getElem? (i := 1) rfl) (by kernel_rfl) (by kernel_rfl) (by decide +kernel), by kernel_rfl⟩
  · exact ⟨tab 1, Can.tyAt W 1, rfl, Can.laid_tab hL (by kernel_rfl) (List.mem_of_getElem? (i := 2) rfl) (by kernel_rfl) (by kernel_rfl) (by decide +kernel), by kernel_rfl⟩
  · exact ⟨tab 2, Can.tyAt W 2, rfl, Can.laid_tab hL (by kernel_rfl) (List.mem_of_getElem? (i := 0) rfl) (by kernel_rfl) (by kernel_rfl) (by decide +kernel), by kernel_rfl⟩
end Go.Proofs.YtjneboajbmabbaaDoor.bitsetSubsets

namespace Go.Proofs.YtjneboajbmabbaaDoor.ref1
open Go.RowKit Go.Own Go.Rw Go.SetL Go.Bits Go.Tz
set_option maxHeartbeats 1000000
set_option maxRecDepth 100000
attribute [local irreducible] beyond grow over

def above (r : List Int) (n : Int) : List Int := r.filter fun x => decide (n < x)
def stepN (r p : List Int) (n : Int) : Bool := !r.contains n && (minusL (above r n) p).length == 0
def nextL (r p : List Int) : List Int × Bool := match p.find? (stepN r p) with
  | some n => (n :: above r n, true)
  | none => ([], false)
theorem above_snoc {r : List Int} {k : Nat} {x n : Int} (h : r[k]? = some x) : above (r.take (k + 1)) n = above (r.take k) n ++ if n < x then [x] else [] := by
  unfold above; rw [take_next h, List.filter_append]; by_cases hx : n < x <;> simp [hx]
theorem above_len (r : List Int) (n : Int) : (above r n).length ≤ r.length := List.length_filter_le _ _
theorem own_one {w : World} {B : Nat} (T : TypeId) (hb : B ≤ w.heap.size) (n : Int) : Own (w.alloc (.cells #[.int .i64 n] T)) B T (.slice (some ⟨w.heap.size, 0, none⟩) 1 1) [n] :=
  ⟨by simp, .inr ⟨w.heap.size, 1, #[.int .i64 n], rfl, hb, heap_alloc_new w _, Nat.le_refl _, by unfold maxLen; omega, rfl, rfl⟩⟩
theorem cells_one (l : List Int) : ∀ u ∈ l.map (Value.int .i64), u.oneCell' = true := by
  intro u hu; obtain ⟨x, _, rfl⟩ := List.mem_map.1 hu; rfl
/-- append(out, l...) -/
theorem wpList_appS {P : Program} {ops : Array Oper} {rest : List Oper} {o : Oper} {a : Act} {Q : Exit → Act → World → Prop} (w : World) (hgd : o.guard = none) (s x : Operand) (t : TypeId)
    (ho : o.op = .call { callee := .builtin .append, args := #[s, x], argTypes := #[t, t] }) {T : TypeId} (ht : P.underlying t = some (.slice T))
    (hT : (P.info? T).map (fun i => (i.zero, i.size, i.bytes)) = some (some (.int .i64 0), 1, 8))
    {v : Value} {l : List Int} {B : Nat} (hown : Own w B T v l) (hB : B ≤ w.heap.size) {u : Value} {l2 : List Int} {B2 : Nat} (hown2 : Own w B2 T u l2) (hl : l.length + l2.length ≤ 1000000)
    (hs : a.eval s = v) (hx : a.eval x = u)
    (h : ∀ v' w', Own w' B T v' (l ++ l2) → Below B w w' → wpList P ops Q rest (a.put o.dst v') w') : wpList P ops Q (o :: rest) a w := by
  obtain ⟨i0, hi, hz0, hz1, hz2⟩ := info_parts hT
  rcases hown2.2 with ⟨rfl, hk⟩ | ⟨g, cap, cur, rfl, hb', hgg, hn, hc, hsz, htk⟩
  · obtain rfl := List.eq_nil_of_length_eq_zero hk
    exact wpList_append_own_none hgd s x t ho B T i0 1 ht hi v l.length (l.map (Value.int .i64)) hs hown hx (h v w (by simpa using hown) (Below.refl _ _))
  · refine wpList_append_own w hgd s x t ho B T i0 (.int .i64 0) 1 8 ht hi hz0 hz1 hz2 rfl (by decide) v l.length (l.map (Value.int .i64)) hs hown _ l2.length cap (l2.map (Value.int .i64)) hx (by simp) (fun j u hu => World.ownsRow.cells hown2 (g := g) rfl j u hu) (cells_one l2) (by unfold maxLen; omega) (by omega) hB ?_
    intro v' w' h1 h2 _
    refine h v' w' ?_ ?_
    · unfold Own; simpa using h1
    · exact (Below.refl _ _).grown h2 hB (fun r hr => (hown.lt r hr).1)
theorem find_take {f : Int → Bool} : ∀ {p : List Int} {k : Nat} {n : Int}, (∀ x ∈ p.take k, f x = false) → p[k]? = some n → f n = true → p.find? f = some n
  | [], _, _, _, h, _ => by simp at h
  | a :: p, 0, n, _, h, hf => by simp at h; subst h; simp [hf]
  | a :: p, k + 1, n, h0, h, hf => by
    have ha := h0 a (by simp)
    rw [List.find?_cons, ha]
    exact find_take (k := k) (fun x hx => h0 x (by simp [hx])) (by simpa using h) hf
/-- a row is stored over a block that holds one -/
theorem wpList_store_over {P : Program} {ops : Array Oper} {rest : List Oper} {op : Oper} {a : Act} {w : World} {Q : Exit → Act → World → Prop} (hgd : op.guard = none) (ty : TypeId) (x y : Operand) (ho : op.op = .store ty x y)
    (cells : Array Value) (t : TypeId) (old : Array Value) (g : Nat) (hx : a.eval x = .pointer (some ⟨g, 0, none⟩)) (hg : BlkAt g old t w) (hy : a.eval y = .agg cells)
    (hi : (P.info? ty).map (·.size) = some cells.size) (hs : old.size = cells.size) (h1 : cells.all (·.oneCell') = true)
    (h : ∀ w', (∀ g' cs' t', g' ≠ g → BlkAt g' cs' t' w → BlkAt g' cs' t' w') → BlkAt g cells t w' → Below g w w' → wpList P ops Q rest (a.put op.dst undef) w') : wpList P ops Q (op :: rest) a w := by
  refine wpList_store_block hgd ty x y ho g cells t old hx hy hg.all hi hs h1 ?_
  refine h _ (fun g' cs' t' hne hk => ⟨?_⟩) ⟨?_⟩ (below_setRow (Below.refl _ _) (Nat.le_refl _) _)
  · have := hk.all
    unfold blockOf at this ⊢
    simp only [World.setRow, Array.getElem?_modify]
    rw [if_neg (fun e => hne e.symm)]; exact this
  · have := hg.all
    unfold blockOf at this ⊢
    simp [World.setRow, Array.getElem?_modify, this]
/-- what Next hands back -/
def RetN (W : World) (l : List Int) (b : Bool) (e : Ending) (w' : World) : Prop := ∃ q m c y, e = .returned (.tuple #[.slice q m c, .bool b]) ∧ w' = beyond W y ∧ IsAt q m c l w'
theorem rnext_calls {q q2 : Option Addr} {m c m2 c2 : Nat} {r p : List Int} {w : World} (h : IsAt q m c r w) (h2 : IsAt q2 m2 c2 p w) (hr : m ≤ 100000) :
    Calls Tryd.prog 45 #[.slice q m c, .slice q2 m2 c2] w (RetN w (nextL r p).1 (nextL r p).2) := by
  have HA := Lib.hid h
  have HA2 := Lib.hid h2
  have hb2 := h2.all.2.1
  clear h h2
  go_enter Tryd.func45, Tryd.ntmps45
  go_wp2
  go_loopw [6] (fun i wo => ∃ k : Nat, k ≤ m2 ∧ i = .int .i64 k ∧ Hid (∀ x ∈ p.take k, stepN r p x = false) ∧ ∃ y, wo = beyond w y) (fun i _ => m2 - (intOf i).toNat)
  case atStart => exact ⟨0, Nat.zero_le _, rfl, Lib.hid (by simp), beyond_of (by repeat (first | assumption | exact Below.refl _ _ | exact below_beyond _ _ | refine Below.beyond ?_ (by (try simp [size_beyond]) <;> omega) _ | refine Below.drew ?_ | refine Go.Rw.below_drewN ?_ _ | refine Go.Rw.below_setRow ?_ (by (try simp [size_beyond]) <;> omega) _ | refine Below.alloc ?_ (by (try simp [size_beyond]) <;> omega) _ | refine Below.setCell ?_ (by (try simp [size_beyond]) <;> omega) _))⟩
  case round =>
    obtain ⟨k, hk, rfl, HN, yo, rfl⟩ := hrel
    by_cases hlt : k < m2
    · obtain ⟨b, off, n, rfl, hx, hbw, hc⟩ := HA2.out.all.2.2.2.2.at (k := k) (by rw [← HA2.out.all.1]; exact hlt)
      have hc := ((below_beyond w yo).cell hbw).trans hc
      have HX := Lib.hid hx; clear hx
      cases hcn : r.contains n
      · have HCN := Lib.hid hcn; clear hcn
        go_wp2_with (go_at_call 22; refine (rhas_at n (HA.out.below (by repeat (first | assumption | exact Below.refl _ _ | exact below_beyond _ _ | refine Below.beyond ?_ (by (try simp [size_beyond]) <;> omega) _ | refine Below.drew ?_ | refine Go.Rw.below_drewN ?_ _ | refine Go.Rw.below_setRow ?_ (by (try simp [size_beyond]) <;> omega) _ | refine Below.alloc ?_ (by (try simp [size_beyond]) <;> omega) _ | refine Below.setCell ?_ (by (try simp [size_beyond]) <;> omega) _)))).mono ?_; rw [HCN.out]; rintro e w1 ⟨rfl, rfl⟩)
        generalize hW1 : beyond w yo = W1
        have HB0 := Lib.hid (show Below w.heap.size w W1 from hW1 ▸ below_beyond w yo)
        have hs0 := HB0.out.size
        rw [hW1] at hc
        clear hW1
        go_loopw [8, 9] (fun v i wr => ∃ j : Nat, j ≤ m ∧ i = .int .i64 j ∧ Hid (Own wr W1.heap.size 3 v (above (r.take j) n)) ∧ Hid (Below W1.heap.size W1 wr)) (fun _ i _ => m - (intOf i).toNat)
        case atStart => exact ⟨0, Nat.zero_le _, rfl, Lib.hid (Own.made _ (Nat.le_refl _)), Lib.hid (by repeat (first | assumption | exact Below.refl _ _ | exact below_beyond _ _ | refine Below.beyond ?_ (by (try simp [size_beyond]) <;> omega) _ | refine Below.drew ?_ | refine Go.Rw.below_drewN ?_ _ | refine Go.Rw.below_setRow ?_ (by (try simp [size_beyond]) <;> omega) _ | refine Below.alloc ?_ (by (try simp [size_beyond]) <;> omega) _ | refine Below.setCell ?_ (by (try simp [size_beyond]) <;> omega) _))⟩
        case round =>
          obtain ⟨j, hj, rfl, HO, HB⟩ := hrel
          have hB : W1.heap.size ≤ wr.heap.size := HB.out.size
          have HL : (above (r.take j) n).length ≤ 100000 := Nat.le_trans (above_len _ _) (by simp; omega)
          by_cases hjm : j < m
          · obtain ⟨b3, off3, x, rfl, hx3, hbw3, hc3⟩ := (HA.out.all.2.2.2.2.below (HB0.out.trans (HB.out.mono hs0))).at (k := j) (by rw [← HA.out.all.1]; exact hjm)
            have HX3 := Lib.hid (above_snoc (n := n) hx3); clear hx3
            by_cases hnx : n < x
            · go_wp2_with (at_builtin; refine wpList_app wr rfl _ _ _ rfl uI tI HO.out hB (by omega) x rfl rfl ?_)
              intro v' w' hown hbel
              have HO2 := Lib.hid hown; clear hown
              have HB2 := Lib.hid (HB.out.trans hbel); clear hbel
              go_wp2
              go_roundw
              case rel => exact ⟨j + 1, by omega, by go_num, Lib.hid (by rw [HX3.out, if_pos hnx]; exact HO2.out), HB2⟩
              case measure => simp [intOf]; omega
            · go_wp2
              go_roundw
              case rel => exact ⟨j + 1, by omega, by go_num, Lib.hid (by rw [HX3.out, if_neg (by omega), List.append_nil]; exact HO.out), HB⟩
              case measure => simp [intOf]; omega
          · obtain rfl : j = m := by omega
            have HT := Lib.hid (show r.take j = r from List.take_of_length_le (by rw [← HA.out.all.1]; exact Nat.le_refl _))
            rw [HT.out] at HO HL
            obtain ⟨q3, c3, rfl, hc31, hc32, hr3⟩ := HO.out.slice
            have H3 : IsAt q3 (above r n).length c3 (above r n) wr := ⟨rfl, by omega, hc31, hc32, hr3⟩
            have HB1 := Lib.hid (HB0.out.trans (HB.out.mono hs0))
            have hcr := (HB.out.cell (p := ⟨b, off + k, none⟩) (by show b < W1.heap.size; omega)).trans hc
            have HSN := Lib.hid (show stepN r p n = ((minusL (above r n) p).length == 0) by unfold stepN; rw [HCN.out]; rfl)
            clear hc31 hc32 hr3
            generalize (above r n).length = m3 at H3 HL HO ⊢
            cases hst : stepN r p n
            · have HW := Lib.hid (show ((minusL (above r n) p).length == 0) = false by rw [← HSN.out]; exact hst)
              have HST := Lib.hid hst; clear hst
              go_wp2_with (go_at_call 36; refine (within_calls H3.all.1 (by omega) H3.all.2.2.2.2 HA2.out.all.1 (by omega) (HA2.out.all.2.2.2.2.below HB1.out)).mono ?_; rw [HW.out]; rintro e w1 ⟨rfl, y1, rfl⟩)
              go_roundw
              case rel => exact ⟨k + 1, by omega, by go_num, Lib.hid (by
                intro x hx; rw [take_next HX.out] at hx
                rcases List.mem_append.1 hx with h | h
                · exact HN.out x h
                · simp at h; subst h; exact HST.out), beyond_of (HB1.out.trans ((below_beyond _ _).mono HB1.out.size))⟩
              case measure => simp [intOf]; omega
            · have HW := Lib.hid (show ((minusL (above r n) p).length == 0) = true by rw [← HSN.out]; exact hst)
              have HST := Lib.hid hst; clear hst
              go_wp2_with (first | (go_at_call 36; refine (within_calls H3.all.1 (by omega) H3.all.2.2.2.2 HA2.out.all.1 (by omega) (HA2.out.all.2.2.2.2.below HB1.out)).mono ?_; rw [HW.out]; rintro e w1 ⟨rfl, y1, rfl⟩) | (at_builtin; refine wpList_appS _ rfl _ _ _ rfl uI tI (own_one 3 (Nat.le_refl _) n) (by simp) (Own.below (Own.below HO.out (below_beyond wr y1)) (by repeat (first | assumption | exact Below.refl _ _ | exact below_beyond _ _ | refine Below.beyond ?_ (by (try simp [size_beyond]) <;> omega) _ | refine Below.drew ?_ | refine Go.Rw.below_drewN ?_ _ | refine Go.Rw.below_setRow ?_ (by (try simp [size_beyond]) <;> omega) _ | refine Below.alloc ?_ (by (try simp [size_beyond]) <;> omega) _ | refine Below.setCell ?_ (by (try simp [size_beyond]) <;> omega) _))) (by have := above_len r n; have := HA.out.all.1; simp; omega) rfl rfl ?_))
              intro v' w' hown hbel
              have hown : Own w' _ _ _ (n :: above r n) := hown
              obtain ⟨q4, c4, rfl, hc41, hc42, hr4⟩ := hown.slice
              have H4 : IsAt q4 (n :: above r n).length c4 (n :: above r n) w' := ⟨rfl, by have := above_len r n; have := HA.out.all.1; simp; omega, hc41, hc42, hr4⟩
              have HE := Lib.hid (show nextL r p = (n :: above r n, true) by
                unfold nextL; rw [find_take HN.out HX.out HST.out])
              have HB5 := Lib.hid (show Below w.heap.size w w' from (HB1.out.trans ((below_beyond wr y1).mono HB1.out.size)).trans (Below.trans (Below.alloc (Below.refl _ _) (Nat.le_refl _) _ |>.mono (by have := HB1.out.size; simp [size_beyond]; omega)) (hbel.mono (by have := HB1.out.size; simp [size_beyond]; omega))))
              clear hown hbel hc41 hc42 hr4
              generalize (n :: above r n).length = m4 at H4 ⊢
              go_wp2
              go_ret2
              rw [HE.out]
              exact ⟨_, _, _, _, rfl, (beyond_of HB5.out).choose_spec, H4⟩
      · have HCN := Lib.hid hcn; clear hcn
        go_wp2_with (go_at_call 22; refine (rhas_at n (HA.out.below (by repeat (first | assumption | exact Below.refl _ _ | exact below_beyond _ _ | refine Below.beyond ?_ (by (try simp [size_beyond]) <;> omega) _ | refine Below.drew ?_ | refine Go.Rw.below_drewN ?_ _ | refine Go.Rw.below_setRow ?_ (by (try simp [size_beyond]) <;> omega) _ | refine Below.alloc ?_ (by (try simp [size_beyond]) <;> omega) _ | refine Below.setCell ?_ (by (try simp [size_beyond]) <;> omega) _)))).mono ?_; rw [HCN.out]; rintro e w1 ⟨rfl, rfl⟩)
        go_roundw
        case rel => exact ⟨k + 1, by omega, by go_num, Lib.hid (by
          intro x hx; rw [take_next HX.out] at hx
          rcases List.mem_append.1 hx with h | h
          · exact HN.out x h
          · simp at h; subst h; unfold stepN; rw [HCN.out]; rfl), beyond_of (by repeat (first | assumption | exact Below.refl _ _ | exact below_beyond _ _ | refine Below.beyond ?_ (by (try simp [size_beyond]) <;> omega) _ | refine Below.drew ?_ | refine Go.Rw.below_drewN ?_ _ | refine Go.Rw.below_setRow ?_ (by (try simp [size_beyond]) <;> omega) _ | refine Below.alloc ?_ (by (try simp [size_beyond]) <;> omega) _ | refine Below.setCell ?_ (by (try simp [size_beyond]) <;> omega) _))⟩
        case measure => simp [intOf]; omega
    · obtain rfl : k = m2 := by omega
      have HT := Lib.hid (show p.take k = p from List.take_of_length_le (by rw [← HA2.out.all.1]; exact Nat.le_refl _))
      have HE := Lib.hid (show nextL r p = ([], false) by
        unfold nextL; rw [List.find?_eq_none.2]
        intro x hx; have := HN.out; rw [HT.out] at this; rw [this x hx]; decide)
      go_wp2
      go_ret2
      rw [HE.out]
      exact ⟨_, _, _, _, rfl, (beyond_of (by repeat (first | assumption | exact Below.refl _ _ | exact below_beyond _ _ | refine Below.beyond ?_ (by (try simp [size_beyond]) <;> omega) _ | refine Below.drew ?_ | refine Go.Rw.below_drewN ?_ _ | refine Go.Rw.below_setRow ?_ (by (try simp [size_beyond]) <;> omega) _ | refine Below.alloc ?_ (by (try simp [size_beyond]) <;> omega) _ | refine Below.setCell ?_ (by (try simp [size_beyond]) <;> omega) _))).choose_spec, ⟨rfl, by omega, Nat.le_refl _, Nat.zero_le _, .inl rfl⟩⟩
end Go.Proofs.YtjneboajbmabbaaDoor.ref1

namespace Go.Proofs.YtjneboajbmabbaaDoor.ref1
open Go.RowKit Go.Own Go.Rw Go.SetL Go.Bits Go.Tz

theorem find_sorted {f : Int → Bool} : ∀ {l : List Int} {n : Int}, l.Pairwise (· < ·) → n ∈ l → f n = true → (∀ x ∈ l, x < n → f x = false) → l.find? f = some n
  | [], _, _, h, _, _ => by cases h
  | a :: l, n, hs, hm, hf, hb => by
    obtain ⟨ha, hl⟩ := List.pairwise_cons.1 hs
    rcases List.mem_cons.1 hm with rfl | h
    · simp [hf]
    · have := hb a (by simp) (ha n h)
      rw [List.find?_cons, this]
      exact find_sorted hl h hf fun x hx => hb x (by simp [hx])
theorem step_iff {xs ys : List W} {i : Nat} (hi : i < 1024) : stepN (elems xs) (elems ys) (i : Int) = true ↔ bitAt xs i = false ∧ ∀ j, i < j → j < 1024 → bitAt xs j = true → bitAt ys j = true := by
  unfold stepN
  rw [Bool.and_eq_true, Bool.not_eq_true', show (elems xs).contains (i : Int) = bitAt xs i from contains_ofP _ _ hi, beq_iff_eq]
  refine and_congr_right fun _ => ?_
  constructor
  · intro h j hj hj2 hb
    have h0 := List.eq_nil_of_length_eq_zero h
    have hm : (j : Int) ∈ above (elems xs) (i : Int) := List.mem_filter.2 ⟨mem_ofP.2 ⟨j, rfl, hj2, hb⟩, by simp; omega⟩
    cases hy : bitAt ys j
    · have : (j : Int) ∈ minusL (above (elems xs) (i : Int)) (elems ys) := List.mem_filter.2 ⟨hm, by rw [show (elems ys).contains (j : Int) = bitAt ys j from contains_ofP _ _ hj2, hy]; rfl⟩
      rw [h0] at this; cases this
    · rfl
  · intro h
    rw [List.length_eq_zero_iff, List.eq_nil_iff_forall_not_mem]
    intro x hx
    obtain ⟨h1, h2⟩ := List.mem_filter.1 hx
    obtain ⟨h3, h4⟩ := List.mem_filter.1 h1
    obtain ⟨j, rfl, h5, h6⟩ := mem_ofP.1 h3
    rw [show (elems ys).contains (j : Int) = bitAt ys j from contains_ofP _ _ h5, h j (by simpa using h4) h5 h6] at h2
    cases h2
/-- what is free above the top of what is not in the larger set -/
def free2 (xs ys : List W) (t : Int) (b : Bool) : List W := if b = true then subR (subR ys xs) (belowS (t + 1)) else subR ys xs
theorem free2_len {xs ys : List W} (hx : xs.length = 16) (hy : ys.length = 16) (t : Int) (b : Bool) : (free2 xs ys t b).length = 16 := by
  unfold free2; split
  · exact sub16_len (sub16_len hy hx) (belowS_len _)
  · exact sub16_len hy hx
theorem bit_sub {xs ys : List W} (hx : xs.length = 16) (hy : ys.length = 16) {i : Nat} (hi : i < 1024) : bitAt (subR xs ys) i = (bitAt xs i && !bitAt ys i) :=
  bitAt_zip (fun a b => a &&& ~~~b) (fun a b => a && !b) (fun a b i h => by simp [h]) hx hy hi
theorem free_iff {xs ys : List W} (hx : xs.length = 16) (hy : ys.length = 16) {t : Int} {b : Bool} (ht : IsMax (subR xs ys) t b) {i : Nat} (hi : i < 1024) :
    bitAt (free2 xs ys t b) i = true ↔ bitAt ys i = true ∧ stepN (elems xs) (elems ys) (i : Int) = true := by
  rw [step_iff hi]
  rcases ht with ⟨rfl, k, rfl, h1, h2, h3⟩ | ⟨rfl, rfl, h0⟩
  · unfold free2
    rw [if_pos rfl, bit_sub (sub16_len hy hx) (belowS_len _) hi, bit_sub hy hx hi, bitAt_below _ i hi]
    rw [bit_sub hx hy h1] at h2
    simp only [Bool.and_eq_true, Bool.not_eq_true', decide_eq_false_iff_not] at h2 ⊢
    constructor
    · rintro ⟨⟨a1, a2⟩, a3⟩
      refine ⟨a1, a2, fun j hj hj2 hb => ?_⟩
      have h4 := h3 j (by omega) hj2
      rw [bit_sub hx hy hj2, hb] at h4
      simpa using h4
    · rintro ⟨a1, a2, a3⟩
      refine ⟨⟨a1, a2⟩, fun hlt => ?_⟩
      rcases Nat.lt_or_ge i k with h4 | h4
      · have := a3 k h4 h1 h2.1
        rw [h2.2] at this; cases this
      · obtain rfl : i = k := by omega
        rw [h2.2] at a1; cases a1
  · unfold free2
    rw [if_neg (by decide), bit_sub hy hx hi]
    simp only [Bool.and_eq_true, Bool.not_eq_true']
    constructor
    · rintro ⟨a1, a2⟩
      refine ⟨a1, a2, fun j hj hj2 hb => ?_⟩
      have h4 := h0 j hj2
      rw [bit_sub hx hy hj2, hb] at h4
      simpa using h4
    · rintro ⟨a1, a2, _⟩; exact ⟨a1, a2⟩
theorem next_no {xs ys : List W} (hx : xs.length = 16) (hy : ys.length = 16) {t n : Int} {b : Bool} (ht : IsMax (subR xs ys) t b) (hm : IsMin (free2 xs ys t b) n false) : nextL (elems xs) (elems ys) = ([], false) := by
  unfold nextL
  rw [List.find?_eq_none.2]
  intro x hx'
  obtain ⟨i, rfl, h1, h2⟩ := mem_ofP.1 hx'
  rcases hm with ⟨h, _⟩ | ⟨_, _, h0⟩
  · cases h
  · intro hs
    have := (free_iff hx hy ht h1).2 ⟨h2, hs⟩
    rw [h0 i h1] at this; cases this
theorem next_yes {xs ys : List W} (hx : xs.length = 16) (hy : ys.length = 16) {t n : Int} {b : Bool} (ht : IsMax (subR xs ys) t b) (hm : IsMin (free2 xs ys t b) n true) :
    nextL (elems xs) (elems ys) = (n :: above (elems xs) n, true) ∧ rowOf (n :: above (elems xs) n) = withS (subR xs (belowS n)) n ∧ 0 ≤ n ∧ n < 1024 := by
  rcases hm with ⟨_, k, rfl, h1, h2, h3⟩ | ⟨h, _⟩
  · have hk := (free_iff hx hy ht h1).1 h2
    refine ⟨?_, ?_, by omega, by omega⟩
    · unfold nextL
      rw [find_sorted (l := elems ys) (n := (k : Int)) (sorted_ofP (bitAt ys)) (mem_ofP.2 ⟨k, rfl, h1, hk.1⟩) hk.2 fun x hx' hlt => ?_]
      obtain ⟨i, rfl, h4, h5⟩ := mem_ofP.1 hx'
      rw [Bool.eq_false_iff]
      intro hs
      have := (free_iff hx hy ht h4).2 ⟨h5, hs⟩
      rw [h3 i (by omega)] at this; cases this
    · refine elems_inj (rowOf_len _) (by rw [withS_len]; exact sub16_len hx (belowS_len _)) ?_
      rw [elems_rowOf, elems_with (sub16_len hx (belowS_len _)), elems_sub hx (belowS_len _)]
      refine ext_sorted (foldl_sorted .nil) (sorted_withL ((sorted_ofP _).filter _)) fun x => ?_
      have hbel : ∀ j : Nat, j < 1024 → (elems (belowS (k : Int))).contains (j : Int) = decide ((j : Int) < (k : Int)) := fun j hj => (contains_ofP _ _ hj).trans (bitAt_below _ j hj)
      simp only [ofL, foldl_with, List.not_mem_nil, false_or, mem_withL, minusL, above, List.mem_cons, List.mem_filter]
      constructor
      · rintro ⟨rfl | ⟨a1, a2⟩, a3, a4⟩
        · exact .inr ⟨rfl, by omega, by omega⟩
        · obtain ⟨j, rfl, h4, h5⟩ := mem_ofP.1 a1
          refine .inl ⟨a1, ?_⟩
          rw [hbel j h4]
          simp only [decide_eq_true_eq] at a2
          rw [decide_eq_false (by omega)]; rfl
      · rintro (⟨a1, a2⟩ | ⟨rfl, a3, a4⟩)
        · obtain ⟨j, rfl, h4, h5⟩ := mem_ofP.1 a1
          rw [hbel j h4] at a2
          refine ⟨?_, by omega, by omega⟩
          by_cases e : (j : Int) = k
          · exact .inl e
          · refine .inr ⟨a1, ?_⟩
            simp at a2 ⊢; omega
        · exact ⟨.inl rfl, by omega, by omega⟩
  · cases h
end Go.Proofs.YtjneboajbmabbaaDoor.ref1

namespace Go.Proofs.YtjneboajbmabbaaDoor.ref1
open Go.RowKit Go.Own Go.Rw Go.SetL Go.Bits Go.Tz

def subStep (out : List (List Int)) (x : Int) : List (List Int) := out ++ out.map (· ++ [x])
def subsL (E : List Int) : List (List Int) := E.foldl subStep [[]]
theorem subsL_nil : subsL [] = [[]] := rfl
theorem subsL_snoc (E : List Int) (x : Int) : subsL (E ++ [x]) = subStep (subsL E) x := by unfold subsL; rw [List.foldl_append]; rfl
theorem subsL_len (E : List Int) : (subsL E).length = 2 ^ E.length := by
  refine snoc_ind (P := fun E => (subsL E).length = 2 ^ E.length) rfl (fun l x ih => ?_) E
  rw [subsL_snoc, subStep, List.length_append, List.length_map, ih, List.length_append]
  simp [Nat.pow_succ]; omega
theorem subsL_sub (E : List Int) : ∀ s ∈ subsL E, s.Sublist E := by
  refine snoc_ind (P := fun E => ∀ s ∈ subsL E, s.Sublist E) (by simp [subsL]) (fun l x ih => ?_) E
  intro s hs
  rw [subsL_snoc, subStep, List.mem_append] at hs
  rcases hs with h | h
  · exact (ih s h).trans (List.sublist_append_left _ _)
  · obtain ⟨t, ht, rfl⟩ := List.mem_map.1 h
    exact (ih t ht).append (List.Sublist.refl _)
theorem subsL_first (E : List Int) : (subsL E)[0]? = some [] := by
  refine snoc_ind (P := fun E => (subsL E)[0]? = some []) rfl (fun l x ih => ?_) E
  rw [subsL_snoc, subStep, List.getElem?_append_left (List.getElem?_eq_some_iff.1 ih).1]; exact ih
/-- for a part of p the step test is only "not there yet" -/
def nextS (s p : List Int) : List Int × Bool := match p.find? (fun n => !s.contains n) with
  | some n => (n :: above s n, true)
  | none => ([], false)
theorem findS_congr {f g : Int → Bool} : ∀ {p : List Int}, (∀ x ∈ p, f x = g x) → p.find? f = p.find? g
  | [], _ => rfl
  | a :: p, h => by
    rw [List.find?_cons, List.find?_cons, h a (by simp), findS_congr fun x hx => h x (by simp [hx])]
theorem nextL_part {s p : List Int} (h : s.Sublist p) : nextL s p = nextS s p := by
  unfold nextL nextS
  have e : p.find? (stepN s p) = p.find? (fun n => !s.contains n) := by
   refine findS_congr ?_
   intro x _
   unfold stepN
   have : (minusL (above s x) p).length = 0 := by
     rw [List.length_eq_zero_iff, List.eq_nil_iff_forall_not_mem]
     intro y hy
     obtain ⟨h1, h2⟩ := List.mem_filter.1 hy
     have := h.subset (List.mem_filter.1 h1).1
     simp [this] at h2
   rw [this]; simp
  rw [e] <;> rfl
theorem nextS_left {s E : List Int} {x n : Int} {t : List Int} (h : nextS s E = (n :: t, true)) : nextS s (E ++ [x]) = (n :: t, true) := by
  unfold nextS at h ⊢
  rw [List.find?_append]
  cases hf : E.find? (fun n => !s.contains n) with
  | none => rw [hf] at h; cases h
  | some m => rw [hf] at h; exact h
theorem nextS_mid {s E : List Int} {x : Int} (h : nextS s E = ([], false)) (hs : ∀ y ∈ s, y < x) : nextS s (E ++ [x]) = ([x], true) := by
  unfold nextS at h ⊢
  rw [List.find?_append]
  cases hf : E.find? (fun n => !s.contains n) with
  | some m => rw [hf] at h; cases h
  | none =>
    have hx : x ∉ s := fun hx => by have := hs x hx; omega
    simp only [Option.none_or, List.find?_cons, List.contains_eq_mem, hx, decide_false, Bool.not_false]
    rw [show above s x = [] from List.filter_eq_nil_iff.2 fun y hy => by have := hs y hy; simp; omega]
theorem nextS_right {s E : List Int} {x : Int} {r : List Int × Bool} (h : nextS s E = r) (hx : ∀ y ∈ E, y < x) : nextS (s ++ [x]) (E ++ [x]) = (if r.2 = true then r.1 ++ [x] else [], r.2) := by
  subst h
  unfold nextS
  have e : E.find? (fun n => !(s ++ [x]).contains n) = E.find? (fun n => !s.contains n) := findS_congr fun y hy => by
    have := hx y hy
    simp only [List.contains_eq_mem, List.mem_append, List.mem_singleton]
    have hne : y ≠ x := by omega
    simp [hne]
  rw [List.find?_append, e]
  cases hf : E.find? (fun n => !s.contains n) with
  | none => simp
  | some m =>
    have hm := hx m (List.mem_of_find?_eq_some hf)
    simp [above, List.filter_append, hm]
theorem nextS_cases (s E : List Int) : (∃ n t, nextS s E = (n :: t, true)) ∨ nextS s E = ([], false) := by
  unfold nextS
  cases E.find? (fun n => !s.contains n) with
  | none => exact .inr rfl
  | some n => exact .inl ⟨_, _, rfl⟩
theorem subsL_chain {E : List Int} (hE : E.Pairwise (· < ·)) : (∀ k s t, (subsL E)[k]? = some s → (subsL E)[k + 1]? = some t → nextS s E = (t, true)) ∧ (∀ k s, (subsL E)[k]? = some s → (subsL E).length = k + 1 → nextS s E = ([], false)) := by
  revert hE
  refine snoc_ind (P := fun E => E.Pairwise (· < ·) → (∀ k s t, (subsL E)[k]? = some s → (subsL E)[k + 1]? = some t → nextS s E = (t, true)) ∧ (∀ k s, (subsL E)[k]? = some s → (subsL E).length = k + 1 → nextS s E = ([], false))) ?_ (fun E x ih => ?_) E
  · intro _
    refine ⟨fun k s t h h1 => by simp [subsL] at h1, fun k s h h1 => ?_⟩
    simp [subsL] at h1
    subst h1
    simp [subsL] at h
    subst h
    rfl
  · intro hE
    obtain ⟨hE1, _, hE3⟩ := List.pairwise_append.1 hE
    have hx : ∀ y ∈ E, y < x := fun y hy => hE3 y hy x (by simp)
    obtain ⟨i1, i2⟩ := ih hE1
    have hl := subsL_sub E
    have hf := subsL_first E
    rw [subsL_snoc, subStep]
    generalize subsL E = L at i1 i2 hl hf ⊢
    have h0 : 0 < L.length := (List.getElem?_eq_some_iff.1 hf).1
    constructor
    · intro k s t h h1
      by_cases hk : k < L.length
      · rw [List.getElem?_append_left hk] at h
        have hs := hl s (List.mem_of_getElem? h)
        by_cases hk1 : k + 1 < L.length
        · rw [List.getElem?_append_left hk1] at h1
          have := i1 k s t h h1
          rcases nextS_cases s E with ⟨n, u, e⟩ | e
          · rw [e] at this; cases this; exact nextS_left e
          · rw [e] at this; cases this
        · obtain e : k + 1 = L.length := by omega
          rw [List.getElem?_append_right (by omega), e, Nat.sub_self, List.getElem?_map, hf] at h1
          cases h1
          exact nextS_mid (i2 k s h e.symm) fun y hy => hx y (hs.subset hy)
      · rw [List.getElem?_append_right (by omega), List.getElem?_map] at h
        rw [List.getElem?_append_right (by omega), List.getElem?_map, show k + 1 - L.length = (k - L.length) + 1 by omega] at h1
        obtain ⟨s', hs', rfl⟩ := Option.map_eq_some_iff.1 h
        obtain ⟨t', ht', rfl⟩ := Option.map_eq_some_iff.1 h1
        rw [nextS_right (i1 _ s' t' hs' ht') hx]; rfl
    · intro k s h h1
      rw [List.length_append, List.length_map] at h1
      rw [List.getElem?_append_right (by omega), List.getElem?_map] at h
      obtain ⟨s', hs', rfl⟩ := Option.map_eq_some_iff.1 h
      rw [nextS_right (i2 _ s' hs' (by omega)) hx]; rfl
/-- a sorted list of numbers in range is the list of its set -/
theorem ofL_sorted {s : List Int} (hs : s.Pairwise (· < ·)) (hr : ∀ x ∈ s, 0 ≤ x ∧ x < 1024) : ofL s = s := by
  refine ext_sorted (foldl_sorted .nil) hs fun x => ?_
  simp only [ofL, foldl_with, List.not_mem_nil, false_or]
  exact ⟨fun h => h.1, fun h => ⟨h, (hr x h).1, (hr x h).2⟩⟩
theorem elems_part {xs : List W} {s : List Int} (h : s.Sublist (elems xs)) : elems (rowOf s) = s := by
  rw [elems_rowOf]
  refine ofL_sorted ((sorted_ofP (bitAt xs)).sublist h) fun x hx => ?_
  obtain ⟨i, rfl, h1, _⟩ := mem_ofP.1 (h.subset hx)
  omega
theorem insL_len (n : Int) (l : List Int) : (insL n l).length ≤ l.length + 1 := by
  rw [insL_eq]
  induction l with
  | nil => simp [ins]
  | cons a l ih => unfold ins; split <;> simp <;> omega
theorem withL_len1 (l : List Int) (n : Int) : (withL l n).length ≤ l.length + 1 := by
  unfold withL; split
  · omega
  · exact insL_len _ _
theorem ofL_len (l : List Int) : (ofL l).length ≤ l.length := by
  refine snoc_ind (P := fun l => (ofL l).length ≤ l.length) (by simp [ofL]) (fun l x ih => ?_) l
  have : ofL (l ++ [x]) = withL (ofL l) x := by unfold ofL; rw [List.foldl_append]; rfl
  rw [this]
  have := withL_len1 (ofL l) x
  simp; omega
end Go.Proofs.YtjneboajbmabbaaDoor.ref1

namespace Go.Proofs.YtjneboajbmabbaaDoor.ref1
open Go.RowKit Go.Own Go.Rw Go.SetL Go.Bits Go.Tz
set_option maxHeartbeats 1000000
set_option maxRecDepth 100000
attribute [local irreducible] beyond grow over

theorem nset_calls {xs ys : List W} (hx : xs.length = 16) (hy : ys.length = 16) (w : World) (hT : TzW w) :
    Calls Tryd.prog 44 #[.agg (rowW xs), .agg (rowW ys)] w fun e w' => e = .returned (.tuple #[.agg (rowW (rowOf (nextL (elems xs) (elems ys)).1)), .bool (nextL (elems xs) (elems ys)).2]) ∧ ∃ y, w' = beyond w y := by
  have HX := Lib.hid hx
  have HY := Lib.hid hy
  have HT := Lib.hid hT
  have HZ := Lib.hid (show (rowW xs).size = 16 by rw [rowW_size, hx])
  have HZ2 := Lib.hid (show (rowW ys).size = 16 by rw [rowW_size, hy])
  have HZF := Lib.hid (show (rowW (subR ys xs)).size = 16 by rw [rowW_size]; exact sub16_len hy hx)
  clear hx hy hT
  have K1 : BlkAt w.heap.size (rowW xs) 25 (((w.alloc (.cells (rowW xs) 25)).alloc (.cells (rowW ys) 25)).alloc (.cells #[.int .u64 0, .int .u64 0, .int .u64 0, .int .u64 0, .int .u64 0, .int .u64 0, .int .u64 0, .int .u64 0, .int .u64 0, .int .u64 0, .int .u64 0, .int .u64 0, .int .u64 0, .int .u64 0, .int .u64 0, .int .u64 0] 25)) := ⟨by simp [go_sem, inW]⟩
  have K2 : BlkAt (w.heap.size + 1) (rowW ys) 25 (((w.alloc (.cells (rowW xs) 25)).alloc (.cells (rowW ys) 25)).alloc (.cells #[.int .u64 0, .int .u64 0, .int .u64 0, .int .u64 0, .int .u64 0, .int .u64 0, .int .u64 0, .int .u64 0, .int .u64 0, .int .u64 0, .int .u64 0, .int .u64 0, .int .u64 0, .int .u64 0, .int .u64 0, .int .u64 0] 25)) := ⟨by simp [go_sem, inW]⟩
  have K3 : BlkAt (w.heap.size + 1 + 1) #[.int .u64 0, .int .u64 0, .int .u64 0, .int .u64 0, .int .u64 0, .int .u64 0, .int .u64 0, .int .u64 0, .int .u64 0, .int .u64 0, .int .u64 0, .int .u64 0, .int .u64 0, .int .u64 0, .int .u64 0, .int .u64 0] 25 (((w.alloc (.cells (rowW xs) 25)).alloc (.cells (rowW ys) 25)).alloc (.cells #[.int .u64 0, .int .u64 0, .int .u64 0, .int .u64 0, .int .u64 0, .int .u64 0, .int .u64 0, .int .u64 0, .int .u64 0, .int .u64 0, .int .u64 0, .int .u64 0, .int .u64 0, .int .u64 0, .int .u64 0, .int .u64 0] 25)) := ⟨by simp [go_sem, inW]⟩
  go_enter Tryd.func44, Tryd.ntmps44
  go_wp2_with (first | (refine wpList_load_any (by kernel_rfl) 25 (.tmp 2) rfl _ (rowW xs) 25 _ rfl (BlkAt.all (by first | (with_reducible assumption) | (refine BlkAt.below (by with_reducible assumption) ?_; exact (by repeat (first | assumption | exact Below.refl _ _ | exact below_beyond _ _ | refine Below.beyond ?_ (by (try simp [size_beyond]) <;> omega) _ | refine Below.drew ?_ | refine Go.Rw.below_drewN ?_ _ | refine Go.Rw.below_setRow ?_ (by (try simp [size_beyond]) <;> omega) _ | refine Below.alloc ?_ (by (try simp [size_beyond]) <;> omega) _ | refine Below.setCell ?_ (by (try simp [size_beyond]) <;> omega) _))))) Tryd.underlying25 rfl (by rw [HZ.out]; exact sInfo) ?_) | (refine wpList_load_any (by kernel_rfl) 25 (.tmp 3) rfl _ (rowW ys) 25 _ rfl (BlkAt.all (by first | (with_reducible assumption) | (refine BlkAt.below (by with_reducible assumption) ?_; exact (by repeat (first | assumption | exact Below.refl _ _ | exact below_beyond _ _ | refine Below.beyond ?_ (by (try simp [size_beyond]) <;> omega) _ | refine Below.drew ?_ | refine Go.Rw.below_drewN ?_ _ | refine Go.Rw.below_setRow ?_ (by (try simp [size_beyond]) <;> omega) _ | refine Below.alloc ?_ (by (try simp [size_beyond]) <;> omega) _ | refine Below.setCell ?_ (by (try simp [size_beyond]) <;> omega) _))))) Tryd.underlying25 rfl (by rw [HZ2.out]; exact sInfo) ?_))
  go_at_call 33
  refine (subset_calls HY.out HX.out _).mono ?_
  rintro e w1 ⟨rfl, y1, rfl⟩
  go_wp2_with (first
    | (refine wpList_store_fresh rfl 25 (.tmp 6) (.tmp 13) rfl (rowW (subR ys xs)) 25 _ _ rfl rfl rfl (by rw [HZF.out]; exact sInfo) (by rw [HZF.out] <;> rfl) (rowW_one _) ?_; intro wr hbel KF; have HWB : Below w.heap.size w wr := Below.trans (by repeat (first | assumption | exact Below.refl _ _ | exact below_beyond _ _ | refine Below.beyond ?_ (by (try simp [size_beyond]) <;> omega) _ | refine Below.drew ?_ | refine Go.Rw.below_drewN ?_ _ | refine Go.Rw.below_setRow ?_ (by (try simp [size_beyond]) <;> omega) _ | refine Below.alloc ?_ (by (try simp [size_beyond]) <;> omega) _ | refine Below.setCell ?_ (by (try simp [size_beyond]) <;> omega) _)) (Below.mono hbel (by simp [size_beyond] <;> omega)); have J1 := (BlkAt.below (K1.below (below_beyond _ y1)) hbel); have J2 := (BlkAt.below (K2.below (below_beyond _ y1)) hbel); have J3 := (BlkAt.below (K3.below (below_beyond _ y1)) hbel); have hws := HWB.size; clear hbel K1 K2 K3)
    | (refine wpList_load_any (by kernel_rfl) 25 (.tmp 2) rfl _ (rowW xs) 25 _ rfl (BlkAt.all (by first | (with_reducible assumption) | (refine BlkAt.below (by with_reducible assumption) ?_; exact (by repeat (first | assumption | exact Below.refl _ _ | exact below_beyond _ _ | refine Below.beyond ?_ (by (try simp [size_beyond]) <;> omega) _ | refine Below.drew ?_ | refine Go.Rw.below_drewN ?_ _ | refine Go.Rw.below_setRow ?_ (by (try simp [size_beyond]) <;> omega) _ | refine Below.alloc ?_ (by (try simp [size_beyond]) <;> omega) _ | refine Below.setCell ?_ (by (try simp [size_beyond]) <;> omega) _))))) Tryd.underlying25 rfl (by rw [HZ.out]; exact sInfo) ?_) | (refine wpList_load_any (by kernel_rfl) 25 (.tmp 3) rfl _ (rowW ys) 25 _ rfl (BlkAt.all (by first | (with_reducible assumption) | (refine BlkAt.below (by with_reducible assumption) ?_; exact (by repeat (first | assumption | exact Below.refl _ _ | exact below_beyond _ _ | refine Below.beyond ?_ (by (try simp [size_beyond]) <;> omega) _ | refine Below.drew ?_ | refine Go.Rw.below_drewN ?_ _ | refine Go.Rw.below_setRow ?_ (by (try simp [size_beyond]) <;> omega) _ | refine Below.alloc ?_ (by (try simp [size_beyond]) <;> omega) _ | refine Below.setCell ?_ (by (try simp [size_beyond]) <;> omega) _))))) Tryd.underlying25 rfl (by rw [HZ2.out]; exact sInfo) ?_))
  go_at_call 33
  refine (subset_calls HX.out HY.out _).mono ?_
  rintro e w1 ⟨rfl, y2, rfl⟩
  have hgf : w.heap.size + 3 ≤ (beyond (((w.alloc (.cells (rowW xs) 25)).alloc (.cells (rowW ys) 25)).alloc (.cells #[.int .u64 0, .int .u64 0, .int .u64 0, .int .u64 0, .int .u64 0, .int .u64 0, .int .u64 0, .int .u64 0, .int .u64 0, .int .u64 0, .int .u64 0, .int .u64 0, .int .u64 0, .int .u64 0, .int .u64 0, .int .u64 0] 25)) y1).heap.size := by rw [size_beyond]; simp
  generalize (beyond (((w.alloc (.cells (rowW xs) 25)).alloc (.cells (rowW ys) 25)).alloc (.cells #[.int .u64 0, .int .u64 0, .int .u64 0, .int .u64 0, .int .u64 0, .int .u64 0, .int .u64 0, .int .u64 0, .int .u64 0, .int .u64 0, .int .u64 0, .int .u64 0, .int .u64 0, .int .u64 0, .int .u64 0, .int .u64 0] 25)) y1).heap.size = gF at hgf KF ⊢
  go_wp2_with (fail)
  go_at_call 16
  refine (max_set (sub16_len HX.out HY.out) _).mono ?_
  rintro e w1 ⟨t, b, y3, rfl, rfl, hmax⟩
  have HMX := Lib.hid hmax; clear hmax
  cases b
  · have HF2 := Lib.hid (show free2 xs ys t false = subR ys xs from if_neg (by decide))
    have HZ6 := Lib.hid (show (rowW (free2 xs ys t false)).size = 16 by rw [rowW_size]; exact free2_len HX.out HY.out _ _)
    have KG : BlkAt gF (rowW (free2 xs ys t false)) 25 wr := by rw [HF2.out]; exact KF
    clear KF
    go_wp2_with ((refine wpList_load_any (by kernel_rfl) 25 (.tmp 6) rfl _ (rowW (free2 xs ys t false)) 25 _ rfl (BlkAt.all (by first | (with_reducible assumption) | (refine BlkAt.below (by with_reducible assumption) ?_; exact (by repeat (first | assumption | exact Below.refl _ _ | exact below_beyond _ _ | refine Below.beyond ?_ (by (try simp [size_beyond]) <;> omega) _ | refine Below.drew ?_ | refine Go.Rw.below_drewN ?_ _ | refine Go.Rw.below_setRow ?_ (by (try simp [size_beyond]) <;> omega) _ | refine Below.alloc ?_ (by (try simp [size_beyond]) <;> omega) _ | refine Below.setCell ?_ (by (try simp [size_beyond]) <;> omega) _))))) Tryd.underlying25 rfl (by rw [HZ6.out]; exact sInfo) ?_))
    go_at_call 15
    refine (min_set (free2_len HX.out HY.out t false) _ (HT.out.below (by repeat (first | assumption | exact Below.refl _ _ | exact below_beyond _ _ | refine Below.beyond ?_ (by (try simp [size_beyond]) <;> omega) _ | refine Below.drew ?_ | refine Go.Rw.below_drewN ?_ _ | refine Go.Rw.below_setRow ?_ (by (try simp [size_beyond]) <;> omega) _ | refine Below.alloc ?_ (by (try simp [size_beyond]) <;> omega) _ | refine Below.setCell ?_ (by (try simp [size_beyond]) <;> omega) _)))).mono ?_
    rintro e w1 ⟨n, b2, y4, rfl, rfl, hmin⟩
    have HMN := Lib.hid hmin; clear hmin
    cases b2
    · have HE := Lib.hid (next_no HX.out HY.out HMX.out HMN.out)
      go_wp2_with (refine wpList_store_over rfl 25 (.tmp 4) (.tmp 34) rfl #[.int .u64 0, .int .u64 0, .int .u64 0, .int .u64 0, .int .u64 0, .int .u64 0, .int .u64 0, .int .u64 0, .int .u64 0, .int .u64 0, .int .u64 0, .int .u64 0, .int .u64 0, .int .u64 0, .int .u64 0, .int .u64 0] 25 _ _ rfl (by first | (with_reducible assumption) | (refine BlkAt.below (by with_reducible assumption) ?_; exact (by repeat (first | assumption | exact Below.refl _ _ | exact below_beyond _ _ | refine Below.beyond ?_ (by (try simp [size_beyond]) <;> omega) _ | refine Below.drew ?_ | refine Go.Rw.below_drewN ?_ _ | refine Go.Rw.below_setRow ?_ (by (try simp [size_beyond]) <;> omega) _ | refine Below.alloc ?_ (by (try simp [size_beyond]) <;> omega) _ | refine Below.setCell ?_ (by (try simp [size_beyond]) <;> omega) _)))) rfl (by kernel_rfl) rfl (by kernel_rfl) ?_; intro wz hk KZ hbz; have HBZ := Lib.hid hbz; clear hk hbz)
      refine bodyPost_ret (results_block2 rfl _ _ (w.heap.size + 1 + 1) 25 #[.int .u64 0, .int .u64 0, .int .u64 0, .int .u64 0, .int .u64 0, .int .u64 0, .int .u64 0, .int .u64 0, .int .u64 0, .int .u64 0, .int .u64 0, .int .u64 0, .int .u64 0, .int .u64 0, .int .u64 0, .int .u64 0] _ _ rfl rfl KZ.all Tryd.underlying25 rfl (by kernel_rfl)) rfl ?_
      refine ⟨?_, beyond_of (Below.trans (by repeat (first | assumption | exact Below.refl _ _ | exact below_beyond _ _ | refine Below.beyond ?_ (by (try simp [size_beyond]) <;> omega) _ | refine Below.drew ?_ | refine Go.Rw.below_drewN ?_ _ | refine Go.Rw.below_setRow ?_ (by (try simp [size_beyond]) <;> omega) _ | refine Below.alloc ?_ (by (try simp [size_beyond]) <;> omega) _ | refine Below.setCell ?_ (by (try simp [size_beyond]) <;> omega) _)) (HBZ.out.mono (by omega)))⟩
      rw [HE.out]; rfl
    · have hnx := next_yes HX.out HY.out HMX.out HMN.out
      obtain ⟨k2, rfl⟩ := Int.eq_ofNat_of_zero_le hnx.2.2.1
      have hk2 : k2 < 1024 := by have := hnx.2.2.2; omega
      have HNX := Lib.hid hnx; clear hnx
      have HZR := Lib.hid (show (rowW (withS (subR xs (belowS (k2 : Int))) k2)).size = 16 by rw [rowW_size, withS_len]; exact sub16_len HX.out (belowS_len _))
      go_wp2
      refine wp_region_tail 6 (by kernel_rfl) (by kernel_rfl) (by kernel_rfl) ?_
      simp only [List.take_succ_cons, List.take_zero, List.drop_succ_cons, List.drop_zero]
      refine wpQuiet_load_row (by kernel_rfl) 25 (.tmp 2) rfl w.heap.size (rowW xs) 25 _ rfl (by rintro _ ⟨x, rfl⟩; exact (BlkAt.below (BlkAt.below J1 (by repeat (first | assumption | exact Below.refl _ _ | exact below_beyond _ _ | refine Below.beyond ?_ (by (try simp [size_beyond]) <;> omega) _ | refine Below.drew ?_ | refine Go.Rw.below_drewN ?_ _ | refine Go.Rw.below_setRow ?_ (by (try simp [size_beyond]) <;> omega) _ | refine Below.alloc ?_ (by (try simp [size_beyond]) <;> omega) _ | refine Below.setCell ?_ (by (try simp [size_beyond]) <;> omega) _))) (below_beyond _ _)).all) Tryd.underlying25 rfl (by rw [HZ.out]; exact sInfo) ?_
      simp only [Act.put, List.setIfInBounds_toArray, List.set_cons_succ, List.set_cons_zero]
      repeat (go_big_quiet_step (first | (go_at_call 23; exact quiet_beyond (below_set _ (by omega) (by omega) _)) | (go_at_call 33; exact quiet_beyond (subset_calls HX.out (belowS_len _) _)) | (go_at_call 25; exact quiet_beyond (wset_calls (sub16_len HX.out (belowS_len _)) _ _))))
      refine wpQuiet_nil ?_
      rintro _ ⟨yq, rfl⟩
      go_wp2_with (refine wpList_store_over rfl 25 (.tmp 4) (.tmp 40) rfl (rowW (withS (subR xs (belowS (k2 : Int))) k2)) 25 _ _ rfl (by first | (with_reducible assumption) | (refine BlkAt.below (by with_reducible assumption) ?_; exact (by repeat (first | assumption | exact Below.refl _ _ | exact below_beyond _ _ | refine Below.beyond ?_ (by (try simp [size_beyond]) <;> omega) _ | refine Below.drew ?_ | refine Go.Rw.below_drewN ?_ _ | refine Go.Rw.below_setRow ?_ (by (try simp [size_beyond]) <;> omega) _ | refine Below.alloc ?_ (by (try simp [size_beyond]) <;> omega) _ | refine Below.setCell ?_ (by (try simp [size_beyond]) <;> omega) _)))) rfl (by rw [HZR.out]; exact sInfo) (by rw [HZR.out]; rfl) (rowW_one _) ?_; intro wz hk KZ hbz; have HBZ := Lib.hid hbz; clear hk hbz)
      refine bodyPost_ret (results_block2 rfl _ _ (w.heap.size + 1 + 1) 25 (rowW (withS (subR xs (belowS (k2 : Int))) k2)) _ _ rfl rfl KZ.all Tryd.underlying25 rfl (by rw [HZR.out]; exact sInfo)) rfl ?_
      refine ⟨?_, beyond_of (Below.trans (by repeat (first | assumption | exact Below.refl _ _ | exact below_beyond _ _ | refine Below.beyond ?_ (by (try simp [size_beyond]) <;> omega) _ | refine Below.drew ?_ | refine Go.Rw.below_drewN ?_ _ | refine Go.Rw.below_setRow ?_ (by (try simp [size_beyond]) <;> omega) _ | refine Below.alloc ?_ (by (try simp [size_beyond]) <;> omega) _ | refine Below.setCell ?_ (by (try simp [size_beyond]) <;> omega) _)) (HBZ.out.mono (by omega)))⟩
      rw [HNX.out.1, ← HNX.out.2.1]
      rfl
  · obtain ⟨k, rfl, hk⟩ : ∃ k : Nat, t = k ∧ k < 1024 := by
      rcases HMX.out with ⟨_, k, h1, h2, _⟩ | ⟨h, _⟩
      · exact ⟨k, h1, h2⟩
      · cases h
    have HF2 := Lib.hid (show free2 xs ys k true = subR (subR ys xs) (belowS ((k : Int) + 1)) from if_pos rfl)
    have HZ3 := Lib.hid (show (rowW (subR (subR ys xs) (belowS ((k : Int) + 1)))).size = 16 by rw [rowW_size]; exact sub16_len (sub16_len HY.out HX.out) (belowS_len _))
    have HZ6 := Lib.hid (show (rowW (free2 xs ys k true)).size = 16 by rw [rowW_size]; exact free2_len HX.out HY.out _ _)
    go_wp2
    refine wp_region_tail 5 (by kernel_rfl) (by kernel_rfl) (by kernel_rfl) ?_
    simp only [List.take_succ_cons, List.take_zero, List.drop_succ_cons, List.drop_zero]
    refine wpQuiet_load_row (by kernel_rfl) 25 (.tmp 6) rfl gF (rowW (subR ys xs)) 25 _ rfl (by rintro _ ⟨x, rfl⟩; exact (BlkAt.below (BlkAt.below KF (by repeat (first | assumption | exact Below.refl _ _ | exact below_beyond _ _ | refine Below.beyond ?_ (by (try simp [size_beyond]) <;> omega) _ | refine Below.drew ?_ | refine Go.Rw.below_drewN ?_ _ | refine Go.Rw.below_setRow ?_ (by (try simp [size_beyond]) <;> omega) _ | refine Below.alloc ?_ (by (try simp [size_beyond]) <;> omega) _ | refine Below.setCell ?_ (by (try simp [size_beyond]) <;> omega) _))) (below_beyond _ _)).all) Tryd.underlying25 rfl (by rw [HZF.out]; exact sInfo) ?_
    simp only [Act.put, List.setIfInBounds_toArray, List.set_cons_succ, List.set_cons_zero]
    repeat (go_big_quiet_step (first | (go_at_call 23; exact quiet_beyond (below_set _ (by omega) (by omega) _)) | (go_at_call 33; exact quiet_beyond (subset_calls (sub16_len HY.out HX.out) (belowS_len _) _))))
    refine wpQuiet_nil ?_
    rintro _ ⟨yq, rfl⟩
    go_wp2_with (first | (refine wpList_store_over rfl 25 (.tmp 6) (.tmp 26) rfl (rowW (subR (subR ys xs) (belowS ((k : Int) + 1)))) 25 _ _ rfl (by first | (with_reducible assumption) | (refine BlkAt.below (by with_reducible assumption) ?_; exact (by repeat (first | assumption | exact Below.refl _ _ | exact below_beyond _ _ | refine Below.beyond ?_ (by (try simp [size_beyond]) <;> omega) _ | refine Below.drew ?_ | refine Go.Rw.below_drewN ?_ _ | refine Go.Rw.below_setRow ?_ (by (try simp [size_beyond]) <;> omega) _ | refine Below.alloc ?_ (by (try simp [size_beyond]) <;> omega) _ | refine Below.setCell ?_ (by (try simp [size_beyond]) <;> omega) _)))) rfl (by rw [HZ3.out]; exact sInfo) (by rw [HZ3.out, HZF.out]) (rowW_one _) ?_; intro wq hkeep KG0 hbq; have HWQ : Below w.heap.size w wq := Below.trans (by repeat (first | assumption | exact Below.refl _ _ | exact below_beyond _ _ | refine Below.beyond ?_ (by (try simp [size_beyond]) <;> omega) _ | refine Below.drew ?_ | refine Go.Rw.below_drewN ?_ _ | refine Go.Rw.below_setRow ?_ (by (try simp [size_beyond]) <;> omega) _ | refine Below.alloc ?_ (by (try simp [size_beyond]) <;> omega) _ | refine Below.setCell ?_ (by (try simp [size_beyond]) <;> omega) _)) (hbq.mono (by omega)); have I1 := hkeep _ _ _ (by omega) (BlkAt.below J1 (by repeat (first | assumption | exact Below.refl _ _ | exact below_beyond _ _ | refine Below.beyond ?_ (by (try simp [size_beyond]) <;> omega) _ | refine Below.drew ?_ | refine Go.Rw.below_drewN ?_ _ | refine Go.Rw.below_setRow ?_ (by (try simp [size_beyond]) <;> omega) _ | refine Below.alloc ?_ (by (try simp [size_beyond]) <;> omega) _ | refine Below.setCell ?_ (by (try simp [size_beyond]) <;> omega) _))); have I3 := hkeep _ _ _ (by omega) (BlkAt.below J3 (by repeat (first | assumption | exact Below.refl _ _ | exact below_beyond _ _ | refine Below.beyond ?_ (by (try simp [size_beyond]) <;> omega) _ | refine Below.drew ?_ | refine Go.Rw.below_drewN ?_ _ | refine Go.Rw.below_setRow ?_ (by (try simp [size_beyond]) <;> omega) _ | refine Below.alloc ?_ (by (try simp [size_beyond]) <;> omega) _ | refine Below.setCell ?_ (by (try simp [size_beyond]) <;> omega) _))); have hwq := HWQ.size; have KG : BlkAt gF (rowW (free2 xs ys k true)) 25 wq := (by rw [HF2.out]; exact KG0); clear hkeep hbq KG0 KF J1 J2 J3) | (refine wpList_load_any (by kernel_rfl) 25 (.tmp 6) rfl _ (rowW (free2 xs ys k true)) 25 _ rfl (BlkAt.all (by first | (with_reducible assumption) | (refine BlkAt.below (by with_reducible assumption) ?_; exact (by repeat (first | assumption | exact Below.refl _ _ | exact below_beyond _ _ | refine Below.beyond ?_ (by (try simp [size_beyond]) <;> omega) _ | refine Below.drew ?_ | refine Go.Rw.below_drewN ?_ _ | refine Go.Rw.below_setRow ?_ (by (try simp [size_beyond]) <;> omega) _ | refine Below.alloc ?_ (by (try simp [size_beyond]) <;> omega) _ | refine Below.setCell ?_ (by (try simp [size_beyond]) <;> omega) _))))) Tryd.underlying25 rfl (by rw [HZ6.out]; exact sInfo) ?_))
    go_at_call 15
    refine (min_set (free2_len HX.out HY.out k true) _ (HT.out.below (by repeat (first | assumption | exact Below.refl _ _ | exact below_beyond _ _ | refine Below.beyond ?_ (by (try simp [size_beyond]) <;> omega) _ | refine Below.drew ?_ | refine Go.Rw.below_drewN ?_ _ | refine Go.Rw.below_setRow ?_ (by (try simp [size_beyond]) <;> omega) _ | refine Below.alloc ?_ (by (try simp [size_beyond]) <;> omega) _ | refine Below.setCell ?_ (by (try simp [size_beyond]) <;> omega) _)))).mono ?_
    rintro e w1 ⟨n, b2, y4, rfl, rfl, hmin⟩
    have HMN := Lib.hid hmin; clear hmin
    cases b2
    · have HE := Lib.hid (next_no HX.out HY.out HMX.out HMN.out)
      go_wp2_with (refine wpList_store_over rfl 25 (.tmp 4) (.tmp 34) rfl #[.int .u64 0, .int .u64 0, .int .u64 0, .int .u64 0, .int .u64 0, .int .u64 0, .int .u64 0, .int .u64 0, .int .u64 0, .int .u64 0, .int .u64 0, .int .u64 0, .int .u64 0, .int .u64 0, .int .u64 0, .int .u64 0] 25 _ _ rfl (by first | (with_reducible assumption) | (refine BlkAt.below (by with_reducible assumption) ?_; exact (by repeat (first | assumption | exact Below.refl _ _ | exact below_beyond _ _ | refine Below.beyond ?_ (by (try simp [size_beyond]) <;> omega) _ | refine Below.drew ?_ | refine Go.Rw.below_drewN ?_ _ | refine Go.Rw.below_setRow ?_ (by (try simp [size_beyond]) <;> omega) _ | refine Below.alloc ?_ (by (try simp [size_beyond]) <;> omega) _ | refine Below.setCell ?_ (by (try simp [size_beyond]) <;> omega) _)))) rfl (by kernel_rfl) rfl (by kernel_rfl) ?_; intro wz hk KZ hbz; have HBZ := Lib.hid hbz; clear hk hbz)
      refine bodyPost_ret (results_block2 rfl _ _ (w.heap.size + 1 + 1) 25 #[.int .u64 0, .int .u64 0, .int .u64 0, .int .u64 0, .int .u64 0, .int .u64 0, .int .u64 0, .int .u64 0, .int .u64 0, .int .u64 0, .int .u64 0, .int .u64 0, .int .u64 0, .int .u64 0, .int .u64 0, .int .u64 0] _ _ rfl rfl KZ.all Tryd.underlying25 rfl (by kernel_rfl)) rfl ?_
      refine ⟨?_, beyond_of (Below.trans (by repeat (first | assumption | exact Below.refl _ _ | exact below_beyond _ _ | refine Below.beyond ?_ (by (try simp [size_beyond]) <;> omega) _ | refine Below.drew ?_ | refine Go.Rw.below_drewN ?_ _ | refine Go.Rw.below_setRow ?_ (by (try simp [size_beyond]) <;> omega) _ | refine Below.alloc ?_ (by (try simp [size_beyond]) <;> omega) _ | refine Below.setCell ?_ (by (try simp [size_beyond]) <;> omega) _)) (HBZ.out.mono (by omega)))⟩
      rw [HE.out]; rfl
    · have hnx := next_yes HX.out HY.out HMX.out HMN.out
      obtain ⟨k2, rfl⟩ := Int.eq_ofNat_of_zero_le hnx.2.2.1
      have hk2 : k2 < 1024 := by have := hnx.2.2.2; omega
      have HNX := Lib.hid hnx; clear hnx
      have HZR := Lib.hid (show (rowW (withS (subR xs (belowS (k2 : Int))) k2)).size = 16 by rw [rowW_size, withS_len]; exact sub16_len HX.out (belowS_len _))
      go_wp2
      refine wp_region_tail 6 (by kernel_rfl) (by kernel_rfl) (by kernel_rfl) ?_
      simp only [List.take_succ_cons, List.take_zero, List.drop_succ_cons, List.drop_zero]
      refine wpQuiet_load_row (by kernel_rfl) 25 (.tmp 2) rfl w.heap.size (rowW xs) 25 _ rfl (by rintro _ ⟨x, rfl⟩; exact (BlkAt.below (BlkAt.below I1 (by repeat (first | assumption | exact Below.refl _ _ | exact below_beyond _ _ | refine Below.beyond ?_ (by (try simp [size_beyond]) <;> omega) _ | refine Below.drew ?_ | refine Go.Rw.below_drewN ?_ _ | refine Go.Rw.below_setRow ?_ (by (try simp [size_beyond]) <;> omega) _ | refine Below.alloc ?_ (by (try simp [size_beyond]) <;> omega) _ | refine Below.setCell ?_ (by (try simp [size_beyond]) <;> omega) _))) (below_beyond _ _)).all) Tryd.underlying25 rfl (by rw [HZ.out]; exact sInfo) ?_
      simp only [Act.put, List.setIfInBounds_toArray, List.set_cons_succ, List.set_cons_zero]
      repeat (go_big_quiet_step (first | (go_at_call 23; exact quiet_beyond (below_set _ (by omega) (by omega) _)) | (go_at_call 33; exact quiet_beyond (subset_calls HX.out (belowS_len _) _)) | (go_at_call 25; exact quiet_beyond (wset_calls (sub16_len HX.out (belowS_len _)) _ _))))
      refine wpQuiet_nil ?_
      rintro _ ⟨yq, rfl⟩
      go_wp2_with (refine wpList_store_over rfl 25 (.tmp 4) (.tmp 40) rfl (rowW (withS (subR xs (belowS (k2 : Int))) k2)) 25 _ _ rfl (by first | (with_reducible assumption) | (refine BlkAt.below (by with_reducible assumption) ?_; exact (by repeat (first | assumption | exact Below.refl _ _ | exact below_beyond _ _ | refine Below.beyond ?_ (by (try simp [size_beyond]) <;> omega) _ | refine Below.drew ?_ | refine Go.Rw.below_drewN ?_ _ | refine Go.Rw.below_setRow ?_ (by (try simp [size_beyond]) <;> omega) _ | refine Below.alloc ?_ (by (try simp [size_beyond]) <;> omega) _ | refine Below.setCell ?_ (by (try simp [size_beyond]) <;> omega) _)))) rfl (by rw [HZR.out]; exact sInfo) (by rw [HZR.out]; rfl) (rowW_one _) ?_; intro wz hk KZ hbz; have HBZ := Lib.hid hbz; clear hk hbz)
      refine bodyPost_ret (results_block2 rfl _ _ (w.heap.size + 1 + 1) 25 (rowW (withS (subR xs (belowS (k2 : Int))) k2)) _ _ rfl rfl KZ.all Tryd.underlying25 rfl (by rw [HZR.out]; exact sInfo)) rfl ?_
      refine ⟨?_, beyond_of (Below.trans (by repeat (first | assumption | exact Below.refl _ _ | exact below_beyond _ _ | refine Below.beyond ?_ (by (try simp [size_beyond]) <;> omega) _ | refine Below.drew ?_ | refine Go.Rw.below_drewN ?_ _ | refine Go.Rw.below_setRow ?_ (by (try simp [size_beyond]) <;> omega) _ | refine Below.alloc ?_ (by (try simp [size_beyond]) <;> omega) _ | refine Below.setCell ?_ (by (try simp [size_beyond]) <;> omega) _)) (HBZ.out.mono (by omega)))⟩
      rw [HNX.out.1, ← HNX.out.2.1]
      rfl
theorem rnext_at {q q2 : Option Addr} {m c m2 c2 : Nat} {xs ys : List W} {w : World} (h : IsAt q m c (elems xs) w) (h2 : IsAt q2 m2 c2 (elems ys) w) :
    Calls Tryd.prog 45 #[.slice q m c, .slice q2 m2 c2] w (RetN w (nextL (elems xs) (elems ys)).1 (nextL (elems xs) (elems ys)).2) :=
  rnext_calls h h2 (by have h1 := h.all.1; have h3 := ofP_len (bitAt xs); have h4 : (elems xs).length ≤ 1024 := h3; omega)
theorem from_at {q : Option Addr} {m c : Nat} {l : List Int} {w : World} (h : IsAt q m c l w) : Calls Tryd.prog 46 #[.slice q m c] w fun e w' => e = .returned (.agg (rowW (rowOf l))) ∧ ∃ y, w' = beyond w y :=
  from_set h.all.1 (by have := h.all.2.1; omega) h.all.2.2.2.2
/-- two rows compared, in a region that draws its order -/
theorem wpQuiet_eqRow {P : Program} {ops : Array Oper} {C : World → Prop} {Q : Act → Prop} {a : Act} {o : Oper} {rest : List Oper} (hw : Region.wanted o (yielded ops a.tmps) = true) {t r e : TypeId} {n : Nat} (x y : Operand) (ho : o.op = .binOp .eql t x y r)
    (hu : P.underlying t = some (.array n e)) (he : P.underlying e = some (.int .u64)) (hi : (P.info? e).map (·.size) = some 1) (hg : P.eqGuardType P.depth t = false)
    {xs ys : List W} (hx : xs.length = n) (hy : ys.length = n) (ex : a.eval x = .agg (rowW xs)) (ey : a.eval y = .agg (rowW ys))
    (hk : wpQuiet P ops C Q rest (a.put o.dst (.bool (decide (xs = ys))))) : wpQuiet P ops C Q (o :: rest) a :=
  BigFrame.wpQuiet_want hw fun K hK => ⟨_, fun w hC => by
    unfold Oper.quietAt execOp
    simp only [ho, ex, ey]
    rw [Sem.run_bind, eq_run hu he hi hg hx hy x y w]
    exact ⟨rfl, rfl⟩, hK _ hk⟩
end Go.Proofs.YtjneboajbmabbaaDoor.ref1

namespace Go.Proofs.YtjneboajbmabbaaDoor.ref1
open Go.RowKit Go.Own Go.Rw Go.SetL Go.Bits Go.Tz
set_option maxHeartbeats 1000000
set_option maxRecDepth 100000
attribute [local irreducible] beyond grow over

def cmpLL : List (List W) → List (List W) → Int
  | [], [] => 0
  | [], _ :: _ => -1
  | _ :: _, [] => 1
  | x :: l, y :: m => if cmpL (elems x) (elems y) = 0 then cmpLL l m else cmpL (elems x) (elems y)
theorem drop_at {α : Type} {L : List α} {k : Nat} {x : α} (h : L[k]? = some x) : L.drop k = x :: L.drop (k + 1) := by
  obtain ⟨hk, rfl⟩ := List.getElem?_eq_some_iff.1 h
  exact List.drop_eq_getElem_cons hk
theorem cmpLL_step {L M : List (List W)} {k : Nat} {x y : List W} (hx : L[k]? = some x) (hy : M[k]? = some y) : cmpLL (L.drop k) (M.drop k) = if cmpL (elems x) (elems y) = 0 then cmpLL (L.drop (k + 1)) (M.drop (k + 1)) else cmpL (elems x) (elems y) := by
  rw [drop_at hx, drop_at hy, cmpLL]
theorem cmpLL_left {L M : List (List W)} {k : Nat} (hx : k = L.length) (hy : k < M.length) : cmpLL (L.drop k) (M.drop k) = -1 := by
  rw [List.drop_eq_nil_of_le (by omega), List.drop_eq_getElem_cons hy]; rfl
theorem cmpLL_right {L M : List (List W)} {k : Nat} (hx : k < L.length) (hy : k = M.length) : cmpLL (L.drop k) (M.drop k) = 1 := by
  rw [show M.drop k = [] from List.drop_eq_nil_of_le (by omega), List.drop_eq_getElem_cons hx]; rfl
theorem cmpLL_both {L M : List (List W)} {k : Nat} (hx : k = L.length) (hy : k = M.length) : cmpLL (L.drop k) (M.drop k) = 0 := by
  rw [List.drop_eq_nil_of_le (by omega), List.drop_eq_nil_of_le (by omega)]; rfl
/-- a slice of sets -/
structure RowsAt (q : Option Addr) (m c : Nat) (L : List (List W)) (w : World) : Prop where
  mk' :: (all : m = L.length ∧ m ≤ 100 ∧ m ≤ c ∧ c ≤ maxLen ∧ (∀ xs ∈ L, xs.length = 16) ∧ (L = [] ∨ ∃ b off, q = some ⟨b, off, none⟩ ∧ b < w.heap.size ∧ ∀ i xs, L[i]? = some xs → w.rangeAt b (off + i * 16) (rowW xs).toList))
theorem RowsAt.below {W w : World} {q : Option Addr} {m c : Nat} {L : List (List Bits.W)} (h : RowsAt q m c L W) (hb : Below W.heap.size W w) : RowsAt q m c L w := by
  obtain ⟨h1, h2, h3, h4, h5, h6⟩ := h.all
  refine ⟨h1, h2, h3, h4, h5, ?_⟩
  rcases h6 with h | ⟨b, off, hq, hbs, hc⟩
  · exact .inl h
  · exact .inr ⟨b, off, hq, Nat.lt_of_lt_of_le hbs hb.size, fun i xs hx j v hv => (hb.cell hbs).trans (hc i xs hx j v hv)⟩
/-- a slice of lists -/
structure ListsAt (q : Option Addr) (m c : Nat) (L : List (List W)) (w : World) : Prop where
  mk' :: (all : m = L.length ∧ m ≤ 100 ∧ m ≤ c ∧ c ≤ maxLen ∧ (L = [] ∨ ∃ b off, q = some ⟨b, off, none⟩ ∧ b < w.heap.size ∧ ∀ i xs, L[i]? = some xs → ∃ q' m' c', w.cell? ⟨b, off + i, none⟩ = some (.slice q' m' c') ∧ IsAt q' m' c' (elems xs) w))
theorem ListsAt.below {W w : World} {q : Option Addr} {m c : Nat} {L : List (List Bits.W)} (h : ListsAt q m c L W) (hb : Below W.heap.size W w) : ListsAt q m c L w := by
  obtain ⟨h1, h2, h3, h4, h6⟩ := h.all
  refine ⟨h1, h2, h3, h4, ?_⟩
  rcases h6 with h | ⟨b, off, hq, hbs, hc⟩
  · exact .inl h
  · refine .inr ⟨b, off, hq, Nat.lt_of_lt_of_le hbs hb.size, fun i xs hx => ?_⟩
    obtain ⟨q', m', c', h7, h8⟩ := hc i xs hx
    exact ⟨q', m', c', (hb.cell hbs).trans h7, h8.below hb⟩
theorem cmp_at {q q2 : Option Addr} {m c m2 c2 : Nat} {l p : List Int} {w : World} (h : IsAt q m c l w) (h2 : IsAt q2 m2 c2 p w) :
    Calls Tryd.prog 40 #[.slice q m c, .slice q2 m2 c2] w fun e w' => e = .returned (.int .i64 (cmpL l p)) ∧ ∃ x, w' = beyond w x :=
  cmp_calls h.all.1 (by have := h.all.2.1; omega) h.all.2.2.2.2 h2.all.1 (by have := h2.all.2.1; omega) h2.all.2.2.2.2
theorem cmpset_calls {xs ys : List W} (hx : xs.length = 16) (hy : ys.length = 16) (w : World) :
    Calls Tryd.prog 39 #[.agg (rowW xs), .agg (rowW ys)] w fun e w' => e = .returned (.int .i64 (cmpL (elems xs) (elems ys))) ∧ ∃ y, w' = beyond w y := by
  have := bits.cmp_calls (ps := rowI xs) (qs := rowI ys) (by rw [rowI_len]; exact hx) (by rw [rowI_len]; exact hy) w
  rwa [cmpV_elems hx hy, rowV_rowW, rowV_rowW] at this
theorem wpList_load_elem {P : Program} {ops : Array Oper} {rest : List Oper} {op : Oper} {a : Act} {w : World} {Q : Exit → Act → World → Prop} (hgd : op.guard = none) (ty : TypeId) (x : Operand) (ho : op.op = .load ty x)
    (b o : Nat) (hx : a.eval x = .pointer (some ⟨b, o, none⟩)) (cs : Array Value) (d : TypeDesc) (hc : w.rangeAt b o cs.toList)
    (hu : P.underlying ty = some d) (hd : d.isRow = true) (hi : (P.info? ty).map (·.size) = some cs.size)
    (h : wpList P ops Q rest (a.put op.dst (.agg cs)) w) : wpList P ops Q (op :: rest) a w :=
  wpList_load_mid hgd ty x ho b o hx cs.toList d hc hu hd (by simpa using hi) (by simpa using h)
theorem wpQuiet_load_elem {P : Program} {ops : Array Oper} {C : World → Prop} {Q : Act → Prop} {a : Act} {o : Oper} {rest : List Oper} (hw : Region.wanted o (yielded ops a.tmps) = true) (ty : TypeId) (x : Operand) (ho : o.op = .load ty x)
    (b off : Nat) (cells : Array Value) (d : TypeDesc) (hx : a.eval x = .pointer (some ⟨b, off, none⟩))
    (hc : ∀ w, C w → w.rangeAt b off cells.toList) (hu : P.underlying ty = some d) (hd : d.isRow = true) (hi : (P.info? ty).map (·.size) = some cells.size)
    (hk : wpQuiet P ops C Q rest (a.put o.dst (.agg cells))) : wpQuiet P ops C Q (o :: rest) a :=
  BigFrame.wpQuiet_want hw fun K hK => ⟨_, fun w hC => by
    unfold Oper.quietAt execOp
    simp only [ho, hx, Instr.loadAt, Instr.sureAddr, Sem.run_bind, Sem.run_pure, Result.andThen_ok, run_loadVar_mid w b off ty cells.toList d (hc w hC) hu hd (by simpa using hi)]
    exact ⟨rfl, by simp⟩, hK _ hk⟩
theorem range_below {w w' : World} {b o : Nat} {cs : List Value} (h : w.rangeAt b o cs) (hb : Below w.heap.size w w') (hbs : b < w.heap.size) : w'.rangeAt b o cs := fun j v hv => (hb.cell hbs).trans (h j v hv)
theorem cmpL_range (a b : List Int) : -1 ≤ cmpL a b ∧ cmpL a b ≤ 1 := by
  have : ∀ l m : List Int, -1 ≤ cmpR l m ∧ cmpR l m ≤ 1 := by
    intro l
    induction l with
    | nil => intro m; cases m <;> simp [cmpR]
    | cons x l ih =>
      intro m
      cases m with
      | nil => simp [cmpR]
      | cons y m =>
        simp only [cmpR]
        split
        · omega
        · split
          · omega
          · exact ih m
  exact this _ _
theorem cmpsl_calls {q q2 : Option Addr} {m c m2 c2 : Nat} {L M : List (List W)} {w : World} (h : RowsAt q m c L w) (h2 : RowsAt q2 m2 c2 M w) :
    Calls Tryd.prog 41 #[.slice q m c, .slice q2 m2 c2] w fun e w' => e = .returned (.int .i64 (cmpLL L M)) ∧ ∃ x, w' = beyond w x := by
  have HA := Lib.hid h
  have HA2 := Lib.hid h2
  have hm := h.all.2.1
  have hm2 := h2.all.2.1
  clear h h2
  by_cases hmm : (m : Int) ≤ (m2 : Int)
  all_goals
    go_enter Tryd.func41, Tryd.ntmps41
    go_wp2
    go_loopw [12] (fun i wr => ∃ k : Nat, k ≤ m ∧ k ≤ m2 ∧ i = .int .i64 k ∧ Hid (cmpLL L M = cmpLL (L.drop k) (M.drop k)) ∧ ∃ y, wr = beyond w y) (fun i _ => m + m2 - (intOf i).toNat)
    case atStart => exact ⟨0, Nat.zero_le _, Nat.zero_le _, rfl, Lib.hid rfl, beyond_of (by repeat (first | assumption | exact Below.refl _ _ | exact below_beyond _ _ | refine Below.beyond ?_ (by (try simp [size_beyond]) <;> omega) _ | refine Below.drew ?_ | refine Go.Rw.below_drewN ?_ _ | refine Go.Rw.below_setRow ?_ (by (try simp [size_beyond]) <;> omega) _ | refine Below.alloc ?_ (by (try simp [size_beyond]) <;> omega) _ | refine Below.setCell ?_ (by (try simp [size_beyond]) <;> omega) _))⟩
    case round =>
      obtain ⟨k, hk, hk2, rfl, HC, y, rfl⟩ := hrel
      by_cases hlt : k < m ∧ k < m2
      · obtain ⟨hlt1, hlt2⟩ := hlt
        rcases HA.out.all.2.2.2.2.2 with h0 | ⟨b, off, rfl, hbs, hcell⟩
        · exfalso; have := HA.out.all.1; rw [h0] at this; simp at this; omega
        rcases HA2.out.all.2.2.2.2.2 with h0 | ⟨b2, off2, rfl, hbs2, hcell2⟩
        · exfalso; have := HA2.out.all.1; rw [h0] at this; simp at this; omega
        obtain ⟨xs, hx⟩ : ∃ xs, L[k]? = some xs := ⟨_, List.getElem?_eq_getElem (by rw [← HA.out.all.1]; exact hlt1)⟩
        obtain ⟨ys, hy⟩ : ∃ ys, M[k]? = some ys := ⟨_, List.getElem?_eq_getElem (by rw [← HA2.out.all.1]; exact hlt2)⟩
        have hr1 : (beyond w y).rangeAt b (off + k * 16) (rowW xs).toList := fun j v hv => ((below_beyond w y).cell hbs).trans (hcell k xs hx j v hv)
        have hr2 : (beyond w y).rangeAt b2 (off2 + k * 16) (rowW ys).toList := fun j v hv => ((below_beyond w y).cell hbs2).trans (hcell2 k ys hy j v hv)
        have HXL := Lib.hid (HA.out.all.2.2.2.2.1 xs (List.mem_of_getElem? hx))
        have HYL := Lib.hid (HA2.out.all.2.2.2.2.1 ys (List.mem_of_getElem? hy))
        have HS := Lib.hid (cmpLL_step hx hy)
        have HR1 := Lib.hid hr1
        have HR2 := Lib.hid hr2
        have HZ1 := Lib.hid (show (rowW xs).size = 16 by rw [rowW_size, HXL.out])
        have HZ2 := Lib.hid (show (rowW ys).size = 16 by rw [rowW_size, HYL.out])
        clear hr1 hr2 hcell hcell2 hx hy
        have hb1 : b < (beyond w y).heap.size := Nat.lt_of_lt_of_le hbs (below_beyond w y).size
        have hb2 : b2 < (beyond w y).heap.size := Nat.lt_of_lt_of_le hbs2 (below_beyond w y).size
        have HCC := Lib.hid (fun w => cmpset_calls HXL.out HYL.out w)
        have hcr := cmpL_range (elems xs) (elems ys)
        generalize cmpL (elems xs) (elems ys) = cv at HS HCC hcr
        by_cases hcv : cv = 0
        · subst hcv
          go_wp2
          refine wp_region_beyond (by kernel_rfl) (by kernel_rfl) ?_
          iterate 3 (go_big_quiet_step (fail))
          refine wpQuiet_load_elem (by kernel_rfl) 25 (.tmp 17) rfl _ _ (rowW xs) _ rfl (by rintro _ ⟨x, rfl⟩; exact range_below HR1.out (below_beyond _ _) hb1) Tryd.underlying25 rfl (by rw [HZ1.out]; exact sInfo) ?_
          simp only [Act.put, List.setIfInBounds_toArray, List.set_cons_succ, List.set_cons_zero]
          iterate 3 (go_big_quiet_step (fail))
          refine wpQuiet_load_elem (by kernel_rfl) 25 (.tmp 21) rfl _ _ (rowW ys) _ rfl (by rintro _ ⟨x, rfl⟩; exact range_below HR2.out (below_beyond _ _) hb2) Tryd.underlying25 rfl (by rw [HZ2.out]; exact sInfo) ?_
          simp only [Act.put, List.setIfInBounds_toArray, List.set_cons_succ, List.set_cons_zero]
          repeat (go_big_quiet_step ((go_at_call 39; exact quiet_beyond (HCC.out _))))
          refine wpQuiet_nil ?_
          rintro _ ⟨x5, rfl⟩
          go_wp2
          go_roundw
          case rel => exact ⟨k + 1, by omega, by omega, by go_num, Lib.hid (by rw [HC.out, HS.out]; simp), beyond_of (by repeat (first | assumption | exact Below.refl _ _ | exact below_beyond _ _ | refine Below.beyond ?_ (by (try simp [size_beyond]) <;> omega) _ | refine Below.drew ?_ | refine Go.Rw.below_drewN ?_ _ | refine Go.Rw.below_setRow ?_ (by (try simp [size_beyond]) <;> omega) _ | refine Below.alloc ?_ (by (try simp [size_beyond]) <;> omega) _ | refine Below.setCell ?_ (by (try simp [size_beyond]) <;> omega) _))⟩
          case measure => simp [intOf] <;> omega
        · have hcb : (cv == 0) = false := beq_eq_false_iff_ne.2 hcv
          have hcb2 : (cv != 0) = true := bne_iff_ne.2 hcv
          have HCV := Lib.hid hcv; clear hcv
          go_wp2
          refine wp_region_beyond (by kernel_rfl) (by kernel_rfl) ?_
          iterate 3 (go_big_quiet_step (fail))
          refine wpQuiet_load_elem (by kernel_rfl) 25 (.tmp 17) rfl _ _ (rowW xs) _ rfl (by rintro _ ⟨x, rfl⟩; exact range_below HR1.out (below_beyond _ _) hb1) Tryd.underlying25 rfl (by rw [HZ1.out]; exact sInfo) ?_
          simp only [Act.put, List.setIfInBounds_toArray, List.set_cons_succ, List.set_cons_zero]
          iterate 3 (go_big_quiet_step (fail))
          refine wpQuiet_load_elem (by kernel_rfl) 25 (.tmp 21) rfl _ _ (rowW ys) _ rfl (by rintro _ ⟨x, rfl⟩; exact range_below HR2.out (below_beyond _ _) hb2) Tryd.underlying25 rfl (by rw [HZ2.out]; exact sInfo) ?_
          simp only [Act.put, List.setIfInBounds_toArray, List.set_cons_succ, List.set_cons_zero]
          repeat (go_big_quiet_step ((go_at_call 39; exact quiet_beyond (HCC.out _))))
          refine wpQuiet_nil ?_
          rintro _ ⟨x5, rfl⟩
          go_wp2
          go_ret
          exact ⟨ret_int (by rw [HC.out, HS.out, if_neg HCV.out]), beyond_of (by repeat (first | assumption | exact Below.refl _ _ | exact below_beyond _ _ | refine Below.beyond ?_ (by (try simp [size_beyond]) <;> omega) _ | refine Below.drew ?_ | refine Go.Rw.below_drewN ?_ _ | refine Go.Rw.below_setRow ?_ (by (try simp [size_beyond]) <;> omega) _ | refine Below.alloc ?_ (by (try simp [size_beyond]) <;> omega) _ | refine Below.setCell ?_ (by (try simp [size_beyond]) <;> omega) _))⟩
      · by_cases h1 : k < m
        · have hke : k = m2 := by omega
          first
          | (exfalso; omega)
          | (have HS := Lib.hid (cmpLL_right (L := L) (M := M) (k := k) (by rw [← HA.out.all.1]; exact h1) (by rw [← HA2.out.all.1]; exact hke))
             subst hke
             go_wp2
             go_ret
             exact ⟨ret_int (by rw [HC.out, HS.out]), beyond_of (by repeat (first | assumption | exact Below.refl _ _ | exact below_beyond _ _ | refine Below.beyond ?_ (by (try simp [size_beyond]) <;> omega) _ | refine Below.drew ?_ | refine Go.Rw.below_drewN ?_ _ | refine Go.Rw.below_setRow ?_ (by (try simp [size_beyond]) <;> omega) _ | refine Below.alloc ?_ (by (try simp [size_beyond]) <;> omega) _ | refine Below.setCell ?_ (by (try simp [size_beyond]) <;> omega) _))⟩)
        · have hke : k = m := by omega
          by_cases h2 : k < m2
          · first
            | (exfalso; omega)
            | (have HS := Lib.hid (cmpLL_left (L := L) (M := M) (k := k) (by rw [← HA.out.all.1]; exact hke) (by rw [← HA2.out.all.1]; exact h2))
               subst hke
               go_wp2
               go_ret
               exact ⟨ret_int (by rw [HC.out, HS.out]), beyond_of (by repeat (first | assumption | exact Below.refl _ _ | exact below_beyond _ _ | refine Below.beyond ?_ (by (try simp [size_beyond]) <;> omega) _ | refine Below.drew ?_ | refine Go.Rw.below_drewN ?_ _ | refine Go.Rw.below_setRow ?_ (by (try simp [size_beyond]) <;> omega) _ | refine Below.alloc ?_ (by (try simp [size_beyond]) <;> omega) _ | refine Below.setCell ?_ (by (try simp [size_beyond]) <;> omega) _))⟩)
          · have hke2 : k = m2 := by omega
            first
            | (exfalso; omega)
            | (have HS := Lib.hid (cmpLL_both (L := L) (M := M) (k := k) (by rw [← HA.out.all.1]; exact hke) (by rw [← HA2.out.all.1]; exact hke2))
               subst hke
               subst hke2
               go_wp2
               go_ret
               exact ⟨ret_int (by rw [HC.out, HS.out]), beyond_of (by repeat (first | assumption | exact Below.refl _ _ | exact below_beyond _ _ | refine Below.beyond ?_ (by (try simp [size_beyond]) <;> omega) _ | refine Below.drew ?_ | refine Go.Rw.below_drewN ?_ _ | refine Go.Rw.below_setRow ?_ (by (try simp [size_beyond]) <;> omega) _ | refine Below.alloc ?_ (by (try simp [size_beyond]) <;> omega) _ | refine Below.setCell ?_ (by (try simp [size_beyond]) <;> omega) _))⟩)
end Go.Proofs.YtjneboajbmabbaaDoor.ref1

namespace Go.Proofs.YtjneboajbmabbaaDoor.ref1
open Go.RowKit Go.Own Go.Rw Go.SetL Go.Bits Go.Tz
set_option maxHeartbeats 1000000
set_option maxRecDepth 100000
attribute [local irreducible] beyond grow over

theorem rI : (Tryd.prog.info? 27).map (fun i => (i.zero, i.size, i.bytes)) = some (some (.slice none 0 0), 1, 24) := by kernel_rfl
theorem lU : Tryd.prog.underlying 54 = some (.slice 27) := Tryd.underlying54
theorem owns_below {w w' : World} {B : Nat} {T : TypeId} {v : Value} {n : Nat} {xs : List Value} (h : w.ownsRow B T 1 v n xs) (hb : Below w.heap.size w w') : w'.ownsRow B T 1 v n xs := by
  refine ⟨h.1, ?_⟩
  rcases h.2 with hn | ⟨g, cap, cur, rfl, hb', hgg, rest⟩
  · exact .inl hn
  · exact .inr ⟨g, cap, cur, rfl, hb', (hb.block g (Array.getElem?_eq_some_iff.1 hgg).1).trans hgg, rest⟩
/-- a slice whose block, if it has one, is a row of this type -/
def TypedAt (T : TypeId) (q : Option Addr) (w : World) : Prop := ∀ b o s, q = some ⟨b, o, s⟩ → ∃ cs, w.heap[b]? = some (.cells cs T (0, 0))
theorem TypedAt.below {T : TypeId} {q : Option Addr} {w w' : World} (h : TypedAt T q w) (hb : Below w.heap.size w w') : TypedAt T q w' := fun b o s e => by
  obtain ⟨cs, hc⟩ := h b o s e
  exact ⟨cs, (hb.block b (Array.getElem?_eq_some_iff.1 hc).1).trans hc⟩
def GivesT (T : TypeId) (W : World) (l : List Int) (e : Ending) (w' : World) : Prop := ∃ q m c, e = .returned (.slice q m c) ∧ m = l.length ∧ m ≤ c ∧ c ≤ maxLen ∧ Reads w' q l ∧ Below W.heap.size W w' ∧ TypedAt T q w'
theorem giveT_of {W w : World} {B : Nat} {T : TypeId} {v : Value} {l : List Int} (h : Own w B T v l) (hb : Below W.heap.size W w) : GivesT T W l (.returned v) w := by
  obtain ⟨q, c, rfl, h1, h2, h3⟩ := h.slice
  refine ⟨q, _, c, rfl, rfl, h1, h2, h3, hb, ?_⟩
  rintro b o s rfl
  rcases h.2 with ⟨he, hk⟩ | ⟨g, cap, cur, he, hb', hgg, hn, hc, hs, ht⟩
  · cases he
  · cases he; exact ⟨cur, hgg⟩
theorem to_typed_calls {xs : List W} (hx : xs.length = 16) (w : World) :
    Calls Tryd.prog 18 #[.agg (rowW xs)] w (GivesT 3 w (elems xs)) := by
  have HX := Lib.hid hx; clear hx
  have hz : (rowW xs).size = 16 := by rw [rowW_size, HX.out]
  have HA := Lib.hid (fun (k : Nat) (h : k < 1024) => rowW_at (xs := xs) (k := k / 64) (by rw [HX.out]; omega))
  have HE := Lib.hid (show elems xs = ofN (bitAt xs) 1024 from rfl)
  rw [HE.out]
  generalize rowW xs = cs at hz HA ⊢
  have HZ := Lib.hid hz; clear hz
  go_enter Tryd.func18, Tryd.ntmps18
  go_wp2
  go_loopw [3, 4] (fun v i wr => ∃ k : Nat, k ≤ 1024 ∧ i = .int .i64 k ∧ Hid (Own wr (w.heap.size + 1) 3 v (ofN (bitAt xs) k)) ∧ Hid (Below (w.heap.size + 1) (w.alloc (.cells cs 25)) wr))
    (fun _ i _ => 1024 - (intOf i).toNat)
  case atStart => exact ⟨0, Nat.zero_le _, rfl, Lib.hid (by have := Own.made (w := w.alloc (.cells cs 25)) (B := w.heap.size + 1) 3 (by simp); rw [ofN_zero]; simpa using this), Lib.hid (by repeat (first | assumption | exact Below.refl _ _ | exact below_beyond _ _ | refine Below.beyond ?_ (by (try simp [size_beyond]) <;> omega) _ | refine Below.drew ?_ | refine Go.Rw.below_drewN ?_ _ | refine Go.Rw.below_setRow ?_ (by (try simp [size_beyond]) <;> omega) _ | refine Below.alloc ?_ (by (try simp [size_beyond]) <;> omega) _ | refine Below.setCell ?_ (by (try simp [size_beyond]) <;> omega) _))⟩
  case round =>
    obtain ⟨k, hk, rfl, HO, HB⟩ := hrel
    have hB : w.heap.size + 1 ≤ wr.heap.size := by have := HB.out.size; simpa using this
    have HL : (ofN (bitAt xs) k).length ≤ 1000000 := Nat.le_trans (ofN_len _ _) (by omega)
    by_cases hlt : k < 1024
    · have hc : wr.cell? ⟨w.heap.size, k / 64, none⟩ = some (.int .u64 (toI (xs.getD (k / 64) 0))) := by
        rw [HB.out.cell (p := ⟨w.heap.size, k / 64, none⟩) (by simp)]
        simp only [go_sem]; exact HA.out k hlt
      have ht := test_eq (xs.getD (k / 64) 0) (k % 64)
      rw [show (xs.getD (k / 64) 0).getLsbD (k % 64) = bitAt xs k from rfl] at ht
      have hu0 := toI_nonneg (xs.getD (k / 64) 0)
      have hu1 := toI_lt (xs.getD (k / 64) 0)
      generalize toI (xs.getD (k / 64) 0) = u at hc ht hu0 hu1
      cases hp : bitAt xs k
      all_goals
        rw [hp] at ht
        have HP := Lib.hid hp; clear hp
      · go_wp2
        go_roundw
        case rel => exact ⟨k + 1, by omega, by go_num, Lib.hid (by rw [ofN_no HP.out]; exact HO.out), HB⟩
        case measure => simp [intOf]; omega
      · go_wp2_with (at_builtin; refine wpList_app wr rfl _ _ _ rfl uI tI HO.out hB HL k rfl rfl ?_)
        intro v' w' hown hbel
        have HO2 := Lib.hid hown; clear hown
        have HB2 := Lib.hid (HB.out.trans hbel); clear hbel
        go_wp2
        go_roundw
        case rel => exact ⟨k + 1, by omega, by go_num, Lib.hid (by rw [ofN_yes HP.out]; exact HO2.out), HB2⟩
        case measure => simp [intOf]; omega
    · obtain rfl : k = 1024 := by omega
      go_wp2
      go_ret
      exact giveT_of HO.out (((Below.refl _ _).alloc (Nat.le_refl _) _).trans (HB.out.mono (by omega)))
theorem to_typed {xs : List W} (hx : xs.length = 16) (w : World) : Calls Tryd.prog 18 #[.agg (rowW xs)] w fun e w' => ∃ q m c y, e = .returned (.slice q m c) ∧ w' = beyond w y ∧ IsAt q m c (elems xs) w' ∧ TypedAt 3 q w' :=
  (to_typed_calls hx w).mono fun e w' h => by
    obtain ⟨q, m, c, rfl, h1, h2, h3, h4, h5, h6⟩ := h
    obtain ⟨y, rfl⟩ := beyond_of h5
    exact ⟨q, m, c, y, rfl, rfl, ⟨h1, by rw [h1]; exact elems_len xs, h2, h3, h4⟩, h6⟩
/-- the values that a slice of lists holds -/
def Held (L : List (List W)) (k : Nat) (vs : List Value) (w : World) : Prop := ∀ i xs, i < k → L[i]? = some xs → ∃ q m c, vs[i]? = some (.slice q m c) ∧ IsAt q m c (elems xs) w ∧ TypedAt 3 q w
theorem Held.below {L : List (List Bits.W)} {k : Nat} {vs : List Value} {w w' : World} (h : Held L k vs w) (hb : Below w.heap.size w w') : Held L k vs w' := fun i xs hi hx => by
  obtain ⟨q, m, c, h1, h2, h3⟩ := h i xs hi hx; exact ⟨q, m, c, h1, h2.below hb, h3.below hb⟩
theorem Held.snoc {L : List (List Bits.W)} {k : Nat} {vs : List Value} {w : World} (h : Held L k vs w) (hl : vs.length = k) {xs : List Bits.W} (hx : L[k]? = some xs) {q : Option Addr} {m c : Nat} (hi : IsAt q m c (elems xs) w) (ht : TypedAt 3 q w) : Held L (k + 1) (vs ++ [.slice q m c]) w := fun i ys hi' hy => by
  by_cases e : i = k
  · subst e; rw [hx] at hy; cases hy; exact ⟨q, m, c, by rw [← hl]; simp, hi, ht⟩
  · obtain ⟨q2, m2, c2, h1, h2⟩ := h i ys (by omega) hy
    exact ⟨q2, m2, c2, by rw [List.getElem?_append_left (by omega)]; exact h1, h2⟩
theorem Held.grown {L : List (List Bits.W)} {k : Nat} {vs : List Value} {w w' : World} (h : Held L k vs w) {B : Nat} {v : Value} {n : Nat} {us : List Value} (ho : w.ownsRow B 27 1 v n us) (hg : w.grownBy w' v.ownBlock) : Held L k vs w' := fun i xs hi hx => by
  obtain ⟨q, m, c, h1, h2, h3⟩ := h i xs hi hx
  have hk : ∀ b o s, q = some ⟨b, o, s⟩ → w'.heap[b]? = w.heap[b]? := fun b o s e => by
    obtain ⟨cs, hc⟩ := h3 b o s e
    refine hg.block b (Array.getElem?_eq_some_iff.1 hc).1 fun eb => ?_
    rcases ho.2 with ⟨rfl, _⟩ | ⟨g, cap, cur, rfl, _, hgg, _⟩
    · cases eb
    · cases eb
      rw [hgg] at hc
      have ht := Obj.cells.inj (Option.some.inj hc) |>.2.1
      exact absurd ht (by decide)
  refine ⟨q, m, c, h1, ⟨h2.all.1, h2.all.2.1, h2.all.2.2.1, h2.all.2.2.2.1, ?_⟩, fun b o s e => by
    obtain ⟨cs, hc⟩ := h3 b o s e; exact ⟨cs, (hk b o s e).trans hc⟩⟩
  rcases h2.all.2.2.2.2 with hr | ⟨b, off, hq, hb, hc⟩
  · exact .inl hr
  · exact .inr ⟨b, off, hq, Nat.lt_of_lt_of_le hb hg.size, fun i x hx => by rw [World.cell?_of_block (hk b off none hq)]; exact hc i x hx⟩
theorem cell_newV (w : World) (y : Value) (T : TypeId) : ∀ (j : Nat) (u : Value), [y][j]? = some u → (w.alloc (.cells #[y] T)).cell? ((⟨w.heap.size, 0, none⟩ : Addr).add j) = some u := by
  intro j u hu
  match j with
  | 0 => simp at hu; subst hu; simp [go_sem, Addr.add]
  | j + 1 => simp at hu
/-- what Lists hands back -/
def RetLL (W : World) (L : List (List Bits.W)) (e : Ending) (w' : World) : Prop := ∃ q m c y, e = .returned (.slice q m c) ∧ w' = beyond W y ∧ ListsAt q m c L w'
theorem lists_calls {q : Option Addr} {m c : Nat} {L : List (List W)} {w : World} (h : RowsAt q m c L w) :
    Calls Tryd.prog 43 #[.slice q m c] w (RetLL w L) := by
  have HA := Lib.hid h
  have hm := h.all.2.1
  clear h
  obtain ⟨i0, hi, hz0, hz1, hz2⟩ := info_parts rI
  have Hi := Lib.hid hi; clear hi
  go_enter Tryd.func43, Tryd.ntmps43
  go_wp2
  go_loopw [3, 4] (fun v i wr => ∃ k : Nat, k ≤ m ∧ i = .int .i64 k ∧ ∃ vs : List Value, Hid (vs.length = k) ∧ Hid (wr.ownsRow w.heap.size 27 1 v k vs) ∧ Hid (Held L k vs wr) ∧ Hid (Below w.heap.size w wr)) (fun _ i _ => m - (intOf i).toNat)
  case atStart => exact ⟨0, Nat.zero_le _, rfl, [], Lib.hid rfl, Lib.hid (World.ownsRow_nil _ _ _ _), Lib.hid (fun i xs h => absurd h (Nat.not_lt_zero _)), Lib.hid (by repeat (first | assumption | exact Below.refl _ _ | exact below_beyond _ _ | refine Below.beyond ?_ (by (try simp [size_beyond]) <;> omega) _ | refine Below.drew ?_ | refine Go.Rw.below_drewN ?_ _ | refine Go.Rw.below_setRow ?_ (by (try simp [size_beyond]) <;> omega) _ | refine Below.alloc ?_ (by (try simp [size_beyond]) <;> omega) _ | refine Below.setCell ?_ (by (try simp [size_beyond]) <;> omega) _))⟩
  case round =>
    obtain ⟨k, hk, rfl, vs, HV, HO, HH, HB⟩ := hrel
    have hB : w.heap.size ≤ wr.heap.size := HB.out.size
    by_cases hlt : k < m
    · rcases HA.out.all.2.2.2.2.2 with h0 | ⟨b, off, rfl, hbs, hcell⟩
      · exfalso; have := HA.out.all.1; rw [h0] at this; simp at this; omega
      obtain ⟨xs, hx⟩ : ∃ xs, L[k]? = some xs := ⟨_, List.getElem?_eq_getElem (by rw [← HA.out.all.1]; exact hlt)⟩
      have HR1 := Lib.hid (show wr.rangeAt b (off + k * 16) (rowW xs).toList from fun j v hv => (HB.out.cell hbs).trans (hcell k xs hx j v hv))
      have HXL := Lib.hid (HA.out.all.2.2.2.2.1 xs (List.mem_of_getElem? hx))
      have HZ1 := Lib.hid (show (rowW xs).size = 16 by rw [rowW_size, HXL.out])
      have HX := Lib.hid hx; clear hx hcell
      go_wp2_with (refine wpList_load_elem rfl 25 (.tmp 14) rfl _ _ rfl (rowW xs) _ HR1.out Tryd.underlying25 rfl (by rw [HZ1.out]; exact sInfo) ?_)
      go_at_call 18
      refine (to_typed HXL.out _).mono ?_
      rintro e w1 ⟨q1, m1, c1, y1, rfl, rfl, H1, T1⟩
      go_wp2_with (at_builtin; refine wpList_append_own _ rfl _ _ 54 rfl w.heap.size 27 i0 (.slice none 0 0) 1 24 lU Hi.out hz0 hz1 hz2 rfl (by decide) _ k vs rfl (World.ownsRow.alloc (owns_below HO.out (below_beyond _ _)) _) ⟨(beyond wr y1).heap.size, 0, none⟩ 1 1 [.slice q1 m1 c1] rfl rfl (cell_newV _ _ _) (by intro u hu; simp at hu; subst hu; rfl) (by unfold maxLen; omega) (by omega) (by simp [size_beyond]; omega) ?_)
      intro v' w' hown hgr _
      have hb2 : Below (beyond wr y1).heap.size (beyond wr y1) ((beyond wr y1).alloc (.cells #[.slice q1 m1 c1] 27)) := (by repeat (first | assumption | exact Below.refl _ _ | exact below_beyond _ _ | refine Below.beyond ?_ (by (try simp [size_beyond]) <;> omega) _ | refine Below.drew ?_ | refine Go.Rw.below_drewN ?_ _ | refine Go.Rw.below_setRow ?_ (by (try simp [size_beyond]) <;> omega) _ | refine Below.alloc ?_ (by (try simp [size_beyond]) <;> omega) _ | refine Below.setCell ?_ (by (try simp [size_beyond]) <;> omega) _))
      have HB2 := Lib.hid (show Below w.heap.size w w' from ((HB.out.trans ((below_beyond wr y1).mono hB)).trans (hb2.mono (by simp [size_beyond]; omega))).grown hgr (by simp [size_beyond]; omega) (fun r hr => (HO.out.lt r hr).1))
      have HH2 := Lib.hid (show Held L (k + 1) (vs ++ [.slice q1 m1 c1]) w' from
        Held.grown (((HH.out.below (below_beyond wr y1)).snoc HV.out HX.out H1 T1).below hb2) (World.ownsRow.alloc (owns_below HO.out (below_beyond wr y1)) _) hgr)
      have HO2 := Lib.hid hown
      have HV2 := Lib.hid (show (vs ++ [Value.slice q1 m1 c1]).length = k + 1 by rw [List.length_append, HV.out]; rfl)
      clear hown hgr hb2
      go_wp2
      go_roundw
      case rel => exact ⟨k + 1, by omega, by go_num, _, HV2, HO2, HH2, HB2⟩
      case measure => simp [intOf]; omega
    · obtain rfl : k = m := by omega
      go_wp2
      go_ret
      have hb := HB.out
      obtain ⟨y, rfl⟩ := beyond_of hb
      rcases HO.out.2 with ⟨rfl, h0⟩ | ⟨g, cap, cur, rfl, hb', hgg, hn, hc, hs, ht⟩
      · exact ⟨_, _, _, _, rfl, rfl, ⟨by rw [← HA.out.all.1, h0], by omega, Nat.le_refl _, Nat.zero_le _, .inl (List.eq_nil_of_length_eq_zero (by rw [← HA.out.all.1, h0]))⟩⟩
      · refine ⟨_, _, _, _, rfl, rfl, ⟨HA.out.all.1, by omega, hn, hc, .inr ⟨g, 0, rfl, (Array.getElem?_eq_some_iff.1 hgg).1, fun i xs hx => ?_⟩⟩⟩
        have hik : i < k := by rw [HA.out.all.1]; exact (List.getElem?_eq_some_iff.1 hx).1
        obtain ⟨q2, m2, c2, h1, h2, _⟩ := HH.out i xs hik hx
        refine ⟨q2, m2, c2, ?_, h2⟩
        have e := World.ownsRow.cells HO.out (g := g) rfl i _ h1
        have e2 : (⟨g, 0, Option.none⟩ : Addr).add i = ⟨g, i, Option.none⟩ := by unfold Addr.add; split <;> simp_all
        rw [Nat.zero_add, ← e2]; exact e
theorem cmpls_calls {q q2 : Option Addr} {m c m2 c2 : Nat} {L M : List (List W)} {w : World} (h : ListsAt q m c L w) (h2 : ListsAt q2 m2 c2 M w) :
    Calls Tryd.prog 42 #[.slice q m c, .slice q2 m2 c2] w fun e w' => e = .returned (.int .i64 (cmpLL L M)) ∧ ∃ x, w' = beyond w x := by
  have HA := Lib.hid h
  have HA2 := Lib.hid h2
  have hm := h.all.2.1
  have hm2 := h2.all.2.1
  clear h h2
  go_enter Tryd.func42, Tryd.ntmps42
  go_wp2
  go_loopw [5] (fun i wr => ∃ k : Nat, k ≤ m ∧ k ≤ m2 ∧ i = .int .i64 k ∧ Hid (cmpLL L M = cmpLL (L.drop k) (M.drop k)) ∧ ∃ y, wr = beyond w y) (fun i _ => m + m2 - (intOf i).toNat)
  case atStart => exact ⟨0, Nat.zero_le _, Nat.zero_le _, rfl, Lib.hid rfl, beyond_of (by repeat (first | assumption | exact Below.refl _ _ | exact below_beyond _ _ | refine Below.beyond ?_ (by (try simp [size_beyond]) <;> omega) _ | refine Below.drew ?_ | refine Go.Rw.below_drewN ?_ _ | refine Go.Rw.below_setRow ?_ (by (try simp [size_beyond]) <;> omega) _ | refine Below.alloc ?_ (by (try simp [size_beyond]) <;> omega) _ | refine Below.setCell ?_ (by (try simp [size_beyond]) <;> omega) _))⟩
  case round =>
    obtain ⟨k, hk, hk2, rfl, HC, y, rfl⟩ := hrel
    by_cases hlt : k < m ∧ k < m2
    · obtain ⟨hlt1, hlt2⟩ := hlt
      rcases HA.out.all.2.2.2.2 with h0 | ⟨b, off, rfl, hbs, hcell⟩
      · exfalso; have := HA.out.all.1; rw [h0] at this; simp at this; omega
      rcases HA2.out.all.2.2.2.2 with h0 | ⟨b2, off2, rfl, hbs2, hcell2⟩
      · exfalso; have := HA2.out.all.1; rw [h0] at this; simp at this; omega
      obtain ⟨xs, hx⟩ : ∃ xs, L[k]? = some xs := ⟨_, List.getElem?_eq_getElem (by rw [← HA.out.all.1]; exact hlt1)⟩
      obtain ⟨ys, hy⟩ : ∃ ys, M[k]? = some ys := ⟨_, List.getElem?_eq_getElem (by rw [← HA2.out.all.1]; exact hlt2)⟩
      obtain ⟨q3, m3, c3, hc3, i3⟩ := hcell k xs hx
      obtain ⟨q4, m4, c4, hc4, i4⟩ := hcell2 k ys hy
      have hc3 := ((below_beyond w y).cell hbs).trans hc3
      have hc4 := ((below_beyond w y).cell hbs2).trans hc4
      have hin3 : inW b (beyond w y) = true := inW_iff.2 (Nat.lt_of_lt_of_le hbs (below_beyond w y).size)
      have hin4 : inW b2 (beyond w y) = true := inW_iff.2 (Nat.lt_of_lt_of_le hbs2 (below_beyond w y).size)
      have i3 := i3.below (below_beyond w y)
      have i4 := i4.below (below_beyond w y)
      have HS := Lib.hid (cmpLL_step hx hy)
      clear hcell hcell2 hx hy
      have HB := Lib.hid (show Below w.heap.size w (beyond w y) from below_beyond w y)
      have hsz := HB.out.size
      generalize beyond w y = wr at hc3 hc4 hin3 hin4 i3 i4 HB hsz ⊢
      have HCC := Lib.hid (fun x => cmp_at (i3.below (below_beyond wr x)) (i4.below (below_beyond wr x)))
      have hcr := cmpL_range (elems xs) (elems ys)
      generalize cmpL (elems xs) (elems ys) = cv at HS HCC hcr
      by_cases hcv : cv = 0
      · subst hcv
        go_wp2
        refine wp_region_beyond (by kernel_rfl) (by kernel_rfl) ?_
        repeat (go_big_quiet_step ((go_at_call 40; exact quiet_beyond (HCC.out _))))
        refine wpQuiet_nil ?_
        rintro _ ⟨x5, rfl⟩
        go_wp2
        go_roundw
        case rel => exact ⟨k + 1, by omega, by omega, by go_num, Lib.hid (by rw [HC.out, HS.out]; simp), beyond_of (HB.out.trans ((below_beyond wr x5).mono hsz))⟩
        case measure => simp [intOf] <;> omega
      · have hcb : (cv == 0) = false := beq_eq_false_iff_ne.2 hcv
        have hcb2 : (cv != 0) = true := bne_iff_ne.2 hcv
        have HCV := Lib.hid hcv; clear hcv
        go_wp2
        refine wp_region_beyond (by kernel_rfl) (by kernel_rfl) ?_
        repeat (go_big_quiet_step ((go_at_call 40; exact quiet_beyond (HCC.out _))))
        refine wpQuiet_nil ?_
        rintro _ ⟨x5, rfl⟩
        go_wp2
        go_ret
        exact ⟨ret_int (by rw [HC.out, HS.out, if_neg HCV.out]), beyond_of (HB.out.trans ((below_beyond wr x5).mono hsz))⟩
    · by_cases h1 : k < m
      · have hke : k = m2 := by omega
        have HS := Lib.hid (cmpLL_right (L := L) (M := M) (k := k) (by rw [← HA.out.all.1]; exact h1) (by rw [← HA2.out.all.1]; exact hke))
        subst hke
        go_wp2
        go_ret
        exact ⟨ret_int (by rw [HC.out, HS.out]), beyond_of (by repeat (first | assumption | exact Below.refl _ _ | exact below_beyond _ _ | refine Below.beyond ?_ (by (try simp [size_beyond]) <;> omega) _ | refine Below.drew ?_ | refine Go.Rw.below_drewN ?_ _ | refine Go.Rw.below_setRow ?_ (by (try simp [size_beyond]) <;> omega) _ | refine Below.alloc ?_ (by (try simp [size_beyond]) <;> omega) _ | refine Below.setCell ?_ (by (try simp [size_beyond]) <;> omega) _))⟩
      · have hke : k = m := by omega
        by_cases h2 : k < m2
        · have HS := Lib.hid (cmpLL_left (L := L) (M := M) (k := k) (by rw [← HA.out.all.1]; exact hke) (by rw [← HA2.out.all.1]; exact h2))
          subst hke
          go_wp2
          go_ret
          exact ⟨ret_int (by rw [HC.out, HS.out]), beyond_of (by repeat (first | assumption | exact Below.refl _ _ | exact below_beyond _ _ | refine Below.beyond ?_ (by (try simp [size_beyond]) <;> omega) _ | refine Below.drew ?_ | refine Go.Rw.below_drewN ?_ _ | refine Go.Rw.below_setRow ?_ (by (try simp [size_beyond]) <;> omega) _ | refine Below.alloc ?_ (by (try simp [size_beyond]) <;> omega) _ | refine Below.setCell ?_ (by (try simp [size_beyond]) <;> omega) _))⟩
        · have hke2 : k = m2 := by omega
          have HS := Lib.hid (cmpLL_both (L := L) (M := M) (k := k) (by rw [← HA.out.all.1]; exact hke) (by rw [← HA2.out.all.1]; exact hke2))
          subst hke
          subst hke2
          go_wp2
          go_ret
          exact ⟨ret_int (by rw [HC.out, HS.out]), beyond_of (by repeat (first | assumption | exact Below.refl _ _ | exact below_beyond _ _ | refine Below.beyond ?_ (by (try simp [size_beyond]) <;> omega) _ | refine Below.drew ?_ | refine Go.Rw.below_drewN ?_ _ | refine Go.Rw.below_setRow ?_ (by (try simp [size_beyond]) <;> omega) _ | refine Below.alloc ?_ (by (try simp [size_beyond]) <;> omega) _ | refine Below.setCell ?_ (by (try simp [size_beyond]) <;> omega) _))⟩
end Go.Proofs.YtjneboajbmabbaaDoor.ref1

namespace Go.Proofs.YtjneboajbmabbaaDoor.ref1
open Go.RowKit Go.Own Go.Rw Go.SetL Go.Bits Go.Tz
set_option maxHeartbeats 1000000
set_option maxRecDepth 100000
attribute [local irreducible] beyond grow over

/-- a slice that reads as l, from the start of a block of its own type -/
structure RowAt (T : TypeId) (g c : Nat) (l : List Int) (w : World) : Prop where
  mk' :: (all : l.length ≤ c ∧ c ≤ maxLen ∧ (∃ cs, w.heap[g]? = some (.cells cs T (0, 0))) ∧ ∀ j x, l[j]? = some x → w.cell? ⟨g, j, none⟩ = some (.int .i64 x))
theorem RowAt.kept {T : TypeId} {g c : Nat} {l : List Int} {w w' : World} (h : RowAt T g c l w) (hk : w'.heap[g]? = w.heap[g]?) : RowAt T g c l w' :=
  ⟨h.all.1, h.all.2.1, by rw [hk]; exact h.all.2.2.1, fun j x hx => by rw [World.cell?_of_block hk]; exact h.all.2.2.2 j x hx⟩
theorem RowAt.lt {T : TypeId} {g c : Nat} {l : List Int} {w : World} (h : RowAt T g c l w) : g < w.heap.size := by
  obtain ⟨cs, hc⟩ := h.all.2.2.1; exact (Array.getElem?_eq_some_iff.1 hc).1
theorem RowAt.below {T : TypeId} {g c : Nat} {l : List Int} {w w' : World} (h : RowAt T g c l w) (hb : Below w.heap.size w w') : RowAt T g c l w' := h.kept (hb.block g h.lt)
theorem RowAt.isAt {T : TypeId} {g c : Nat} {l : List Int} {w : World} (h : RowAt T g c l w) (hl : l.length ≤ 999000) : IsAt (some ⟨g, 0, none⟩) l.length c l w :=
  ⟨rfl, hl, h.all.1, h.all.2.1, .inr ⟨g, 0, rfl, h.lt, fun j x hx => by rw [Nat.zero_add]; exact h.all.2.2.2 j x hx⟩⟩
theorem rowAt_of {w : World} {B : Nat} {T : TypeId} {v : Value} {l : List Int} (h : Own w B T v l) (hl : l ≠ []) : ∃ g c, v = .slice (some ⟨g, 0, none⟩) l.length c ∧ B ≤ g ∧ RowAt T g c l w := by
  rcases h.2 with ⟨rfl, hk⟩ | ⟨g, cap, cur, rfl, hb, hgg, hn, hc, hs, ht⟩
  · exact absurd (List.eq_nil_of_length_eq_zero hk) hl
  · refine ⟨g, cap, rfl, hb, ⟨hn, hc, ⟨cur, hgg⟩, fun i x hx => ?_⟩⟩
    have e := World.ownsRow.cells h (g := g) rfl i (.int .i64 x) (by simp [hx])
    have e2 : (⟨g, 0, Option.none⟩ : Addr).add i = ⟨g, i, Option.none⟩ := by unfold Addr.add; split <;> simp_all
    rw [← e2]; exact e
/-- the values that a slice of lists holds -/
structure HeldI (L : List (List Int)) (vs : List Value) (w : World) : Prop where
  mk' :: (all : vs.length = L.length ∧ ∀ (i : Nat) (s : List Int), L[i]? = some s → ∃ g c, vs[i]? = some (Value.slice (some ⟨g, 0, none⟩) s.length c) ∧ RowAt 3 g c s w)
theorem HeldI.below {L : List (List Int)} {vs : List Value} {w w' : World} (h : HeldI L vs w) (hb : Below w.heap.size w w') : HeldI L vs w' :=
  ⟨h.all.1, fun i s hx => by obtain ⟨g, c, h1, h2⟩ := h.all.2 i s hx; exact ⟨g, c, h1, h2.below hb⟩⟩
theorem HeldI.snoc {L : List (List Int)} {vs : List Value} {w : World} (h : HeldI L vs w) {s : List Int} {g c : Nat} (hr : RowAt 3 g c s w) : HeldI (L ++ [s]) (vs ++ [Value.slice (some ⟨g, 0, none⟩) s.length c]) w := by
  refine ⟨by simp [h.all.1], fun i t ht => ?_⟩
  by_cases hi : i < L.length
  · rw [List.getElem?_append_left hi] at ht
    obtain ⟨g2, c2, h1, h2⟩ := h.all.2 i t ht
    exact ⟨g2, c2, by rw [List.getElem?_append_left (by rw [h.all.1]; exact hi)]; exact h1, h2⟩
  · have hlen := (List.getElem?_eq_some_iff.1 ht).1
    obtain rfl : i = L.length := by simp at hlen; omega
    simp at ht; subst ht
    exact ⟨g, c, by rw [← h.all.1]; simp, hr⟩
theorem HeldI.grown {L : List (List Int)} {vs : List Value} {w w' : World} (h : HeldI L vs w) {B : Nat} {v : Value} {n : Nat} {us : List Value} (ho : w.ownsRow B 27 1 v n us) (hg : w.grownBy w' v.ownBlock) : HeldI L vs w' :=
  ⟨h.all.1, fun i s hx => by
    obtain ⟨g, c, h1, h2⟩ := h.all.2 i s hx
    refine ⟨g, c, h1, h2.kept (hg.block g h2.lt fun eb => ?_)⟩
    obtain ⟨cs, hc⟩ := h2.all.2.2.1
    rcases ho.2 with ⟨rfl, _⟩ | ⟨g2, cap, cur, rfl, _, hgg, _⟩
    · cases eb
    · cases eb
      rw [hgg] at hc
      exact absurd (Obj.cells.inj (Option.some.inj hc)).2.1 (by decide)⟩
/-- append(out, l...) where l is a row that is only read -/
theorem wpList_appR {P : Program} {ops : Array Oper} {rest : List Oper} {o : Oper} {a : Act} {Q : Exit → Act → World → Prop} (w : World) (hgd : o.guard = none) (s x : Operand) (t : TypeId)
    (ho : o.op = .call { callee := .builtin .append, args := #[s, x], argTypes := #[t, t] }) {T : TypeId} (ht : P.underlying t = some (.slice T))
    (hT : (P.info? T).map (fun i => (i.zero, i.size, i.bytes)) = some (some (.int .i64 0), 1, 8))
    {v : Value} {l : List Int} {B : Nat} (hown : Own w B T v l) (hB : B ≤ w.heap.size) {T2 : TypeId} {g c : Nat} {l2 : List Int} (hr : RowAt T2 g c l2 w) (hl : l.length + l2.length ≤ 1000000)
    (hs : a.eval s = v) (hx : a.eval x = .slice (some ⟨g, 0, none⟩) l2.length c)
    (h : ∀ v' w', Own w' B T v' (l ++ l2) → Below B w w' → (v' = .slice none 0 0 ↔ v = .slice none 0 0 ∧ l2.length = 0) → wpList P ops Q rest (a.put o.dst v') w') : wpList P ops Q (o :: rest) a w := by
  obtain ⟨i0, hi, hz0, hz1, hz2⟩ := info_parts hT
  refine wpList_append_own w hgd s x t ho B T i0 (.int .i64 0) 1 8 ht hi hz0 hz1 hz2 rfl (by decide) v l.length (l.map (Value.int .i64)) hs hown _ l2.length c (l2.map (Value.int .i64)) hx (by simp) (fun j u hu => ?_) (cells_one l2) (by unfold maxLen; omega) (by omega) hB ?_
  · simp only [List.getElem?_map, Option.map_eq_some_iff] at hu
    obtain ⟨y, hy, rfl⟩ := hu
    have e2 : (⟨g, 0, Option.none⟩ : Addr).add j = ⟨g, j, Option.none⟩ := by unfold Addr.add; split <;> simp_all
    rw [e2]; exact hr.all.2.2.2 j y hy
  · intro v' w' h1 h2 h3
    refine h v' w' ?_ ?_ h3
    · unfold Own; simpa using h1
    · exact (Below.refl _ _).grown h2 hB (fun r hr => (hown.lt r hr).1)
theorem subStep_part (L : List (List Int)) (x : Int) (k : Nat) {s : List Int} (h : L[k]? = some s) : L ++ (L.take (k + 1)).map (· ++ [x]) = (L ++ (L.take k).map (· ++ [x])) ++ [s ++ [x]] := by
  rw [List.take_add_one, h]; simp
/-- a slice of lists -/
structure SubsAt (q : Option Addr) (m c : Nat) (L : List (List Int)) (w : World) : Prop where
  mk' :: (all : m = L.length ∧ m ≤ 1100 ∧ m ≤ c ∧ c ≤ maxLen ∧ ∃ b, q = some ⟨b, 0, none⟩ ∧ b < w.heap.size ∧ ∀ (i : Nat) (s : List Int), L[i]? = some s → ∃ g c', w.cell? ⟨b, i, none⟩ = some (.slice (some ⟨g, 0, none⟩) s.length c') ∧ RowAt 3 g c' s w)
theorem SubsAt.below {q : Option Addr} {m c : Nat} {L : List (List Int)} {W w : World} (h : SubsAt q m c L W) (hb : Below W.heap.size W w) : SubsAt q m c L w := by
  obtain ⟨h1, h2, h3, h4, b, hq, hbs, hc⟩ := h.all
  refine ⟨h1, h2, h3, h4, b, hq, Nat.lt_of_lt_of_le hbs hb.size, fun i s hx => ?_⟩
  obtain ⟨g, c', h7, h8⟩ := hc i s hx
  exact ⟨g, c', (hb.cell (p := ⟨b, i, none⟩) hbs).trans h7, h8.below hb⟩
theorem take_len_le {l : List Int} {k : Nat} (hl : l.length ≤ 10) : (subsL (l.take k)).length ≤ 1024 := by
  rw [subsL_len]
  exact Nat.le_trans (Nat.pow_le_pow_right (by omega) (show (l.take k).length ≤ 10 by simp; omega)) (by decide)
theorem subs_calls {q : Option Addr} {m c : Nat} {l : List Int} {w : World} (h : IsAt q m c l w) (hl : l.length ≤ 10) :
    Calls Tryd.prog 47 #[.slice q m c] w fun e w' => ∃ q' m' c' y, e = .returned (.slice q' m' c') ∧ w' = beyond w y ∧ SubsAt q' m' c' (subsL l) w' := by
  have HA := Lib.hid h
  have HM := Lib.hid h.all.1
  have hml : m ≤ 10 := by have := h.all.1; omega
  clear h
  obtain ⟨i0, hi, hz0, hz1, hz2⟩ := info_parts rI
  have Hi := Lib.hid hi; clear hi
  go_enter Tryd.func47, Tryd.ntmps47
  go_wp2
  go_loopw [3, 4] (fun v i wr => ∃ k : Nat, k ≤ m ∧ i = .int .i64 k ∧ ∃ vs : List Value, Hid (wr.ownsRow w.heap.size 27 1 v vs.length vs) ∧ Hid (HeldI (subsL (l.take k)) vs wr) ∧ Hid (Below w.heap.size w wr)) (fun _ i _ => m - (intOf i).toNat)
  case atStart =>
    refine ⟨0, Nat.zero_le _, rfl, [Value.slice (some ⟨w.heap.size, 0, none⟩) 0 0], Lib.hid ⟨by simp, .inr ⟨w.heap.size + 1, 1, #[Value.slice (some ⟨w.heap.size, 0, none⟩) 0 0], rfl, by omega, by rw [← World.size_alloc w (.cells #[] 3)]; exact heap_alloc_new _ _, Nat.le_refl _, by unfold maxLen; omega, rfl, rfl⟩⟩, Lib.hid ⟨by simp [subsL], fun i s hs => ?_⟩, Lib.hid (by repeat (first | assumption | exact Below.refl _ _ | exact below_beyond _ _ | refine Below.beyond ?_ (by (try simp [size_beyond]) <;> omega) _ | refine Below.drew ?_ | refine Go.Rw.below_drewN ?_ _ | refine Go.Rw.below_setRow ?_ (by (try simp [size_beyond]) <;> omega) _ | refine Below.alloc ?_ (by (try simp [size_beyond]) <;> omega) _ | refine Below.setCell ?_ (by (try simp [size_beyond]) <;> omega) _))⟩
    match i with
    | 0 =>
      simp [subsL] at hs
      subst hs
      exact ⟨w.heap.size, 0, rfl, ⟨Nat.le_refl _, Nat.zero_le _, ⟨_, (((Below.refl (w.heap.size + 1) _).alloc (by simp) _).block w.heap.size (by omega)).trans (heap_alloc_new w _)⟩, fun j x hx => by simp at hx⟩⟩
    | i + 1 => simp [subsL] at hs
  case round =>
    obtain ⟨k, hk, rfl, vs, HO, HH, HB⟩ := hrel
    have hB : w.heap.size ≤ wr.heap.size := HB.out.size
    have hlen := take_len_le (k := k) hl
    have HVL := Lib.hid HH.out.all.1
    have hpos : 0 < (subsL (l.take k)).length := (List.getElem?_eq_some_iff.1 (subsL_first _)).1
    obtain ⟨g, cap, cur, rfl, hbg, hgg, hn, hcap, hsz, htk⟩ := HO.out.2.resolve_left (fun h => by have := HVL.out; omega)
    by_cases hlt : k < m
    · obtain ⟨b, off, x, rfl, hx, hbw, hc⟩ := HA.out.all.2.2.2.2.at (k := k) (by rw [← HA.out.all.1]; exact hlt)
      have HC := Lib.hid hc; clear hc
      have HX := Lib.hid (show l.take (k + 1) = l.take k ++ [x] from take_next hx); clear hx
      have hlen2 := take_len_le (k := k + 1) hl
      rw [HX.out, subsL_snoc, subStep, List.length_append, List.length_map] at hlen2
      generalize hL0 : subsL (l.take k) = L0 at HH hlen HVL hpos hlen2
      have HL0 := Lib.hid hL0; clear hL0
      have HO' := Lib.hid hgg
      have HLT := Lib.hid hlt
      clear hgg htk hsz
      go_wp2
      go_loopw [3, 6] (fun v i wq => ∃ j : Nat, j ≤ vs.length ∧ i = .int .i64 j ∧ ∃ us : List Value, Hid (wq.ownsRow w.heap.size 27 1 v us.length us) ∧ Hid (HeldI (L0 ++ (L0.take j).map (· ++ [x])) us wq) ∧ Hid (Below w.heap.size w wq)) (fun _ i _ => vs.length - (intOf i).toNat)
      case atStart => exact ⟨0, Nat.zero_le _, rfl, vs, HO, Lib.hid (by simpa using HH.out), HB⟩
      case round =>
        clear HB HO HO' HH
        obtain ⟨j, hj, rfl, us, HO, HH, HB⟩ := hrel
        have hB : w.heap.size ≤ wr.heap.size := HB.out.size
        have HUL := Lib.hid (show us.length = L0.length + j by rw [HH.out.all.1]; have := HVL.out; simp; omega)
        have hpu : 0 < us.length := by rw [HUL.out]; omega
        have hO := HO.out
        obtain ⟨g, cap, cur, rfl, hbg, hgg, hn, hcap, hsz, htk⟩ := hO.2.resolve_left (fun h => by omega)
        by_cases hjn : j < vs.length
        · have hju : j < us.length := by rw [HUL.out]; omega
          have hul1 : us.length ≤ 1024 := by have := HUL.out; have := HVL.out; omega
          obtain ⟨s, hs⟩ : ∃ s, L0[j]? = some s := ⟨_, List.getElem?_eq_getElem (by rw [← HVL.out]; exact hjn)⟩
          obtain ⟨g2, c2, hus, HR⟩ := HH.out.all.2 j s (by rw [List.getElem?_append_left (by rw [← HVL.out]; exact hjn)]; exact hs)
          have hcell := World.ownsRow.cells hO (g := g) rfl j _ hus
          rw [show (⟨g, 0, Option.none⟩ : Addr).add j = ⟨g, j, Option.none⟩ by unfold Addr.add; split <;> simp_all] at hcell
          have hs10 : s.length ≤ 10 := by
            have h1 := (subsL_sub (l.take k)) s (by rw [HL0.out]; exact List.mem_of_getElem? hs)
            have := h1.length_le
            simp at this; omega
          have HS := Lib.hid (subStep_part L0 x j hs); clear hs
          have HGG := Lib.hid hgg
          clear hgg htk hsz hO hus
          have hgs : g < wr.heap.size := (Array.getElem?_eq_some_iff.1 HGG.out).1
          have hE : Own (wr.alloc (.cells #[] 3)) wr.heap.size 3 (.slice (some ⟨wr.heap.size, 0, none⟩) 0 0) [] := Own.made _ (Nat.le_refl _)
          have HE := Lib.hid hE; clear hE
          have HR1 : RowAt 3 g2 c2 s (wr.alloc (.cells #[] 3)) := HR.below (by repeat (first | assumption | exact Below.refl _ _ | exact below_beyond _ _ | refine Below.beyond ?_ (by (try simp [size_beyond]) <;> omega) _ | refine Below.drew ?_ | refine Go.Rw.below_drewN ?_ _ | refine Go.Rw.below_setRow ?_ (by (try simp [size_beyond]) <;> omega) _ | refine Below.alloc ?_ (by (try simp [size_beyond]) <;> omega) _ | refine Below.setCell ?_ (by (try simp [size_beyond]) <;> omega) _))
          go_wp2_with (at_builtin; refine wpList_appR _ rfl _ _ _ rfl uI tI HE.out (by simp) HR1 (by simp; omega) rfl rfl ?_)
          intro v1 w1 hown1 hbel1 _
          have HB1 := Lib.hid (show Below wr.heap.size wr w1 from Below.trans (by repeat (first | assumption | exact Below.refl _ _ | exact below_beyond _ _ | refine Below.beyond ?_ (by (try simp [size_beyond]) <;> omega) _ | refine Below.drew ?_ | refine Go.Rw.below_drewN ?_ _ | refine Go.Rw.below_setRow ?_ (by (try simp [size_beyond]) <;> omega) _ | refine Below.alloc ?_ (by (try simp [size_beyond]) <;> omega) _ | refine Below.setCell ?_ (by (try simp [size_beyond]) <;> omega) _)) hbel1)
          have hs1 := HB1.out.size
          have hc1 : w1.cell? ⟨b, off + k, none⟩ = some (.int .i64 x) := ((HB.out.trans (HB1.out.mono hB)).cell (p := ⟨b, off + k, none⟩) hbw).trans HC.out
          have HO1 := Lib.hid (show Own w1 wr.heap.size 3 v1 s from hown1)
          clear hown1 hbel1 hcell
          go_wp2_with (at_builtin; refine wpList_app w1 rfl _ _ _ rfl uI tI HO1.out hs1 (by omega) x rfl rfl ?_)
          intro v2 w2 hown2 hbel2
          obtain ⟨g3, c3, rfl, hg3, HR3⟩ := rowAt_of hown2 (by simp)
          have HB2 := Lib.hid (HB1.out.trans hbel2)
          clear hown2 hbel2 hc1
          have hs2 := HB2.out.size
          have HH2 := Lib.hid ((HH.out.below HB2.out).snoc HR3)
          rw [← HS.out] at HH2
          have hO2 := owns_below HO.out HB2.out
          have HOA := Lib.hid (World.ownsRow.alloc hO2 (.cells #[Value.slice (some ⟨g3, 0, none⟩) (s ++ [x]).length c3] 27)); clear hO2
          generalize (s ++ [x]).length = ln at HH2 HOA
          go_wp2_with (at_builtin; refine wpList_append_own _ rfl _ _ 54 rfl w.heap.size 27 i0 (.slice none 0 0) 1 24 lU Hi.out hz0 hz1 hz2 rfl (by decide) _ us.length us rfl HOA.out ⟨w2.heap.size, 0, none⟩ 1 1 [.slice (some ⟨g3, 0, none⟩) ln c3] rfl rfl (cell_newV _ _ _) (by intro u hu; simp at hu; subst hu; rfl) (by unfold maxLen; omega) (by omega) (by simp; omega) ?_)
          intro v' w' hown hgr _
          have hb2 : Below w2.heap.size w2 (w2.alloc (.cells #[Value.slice (some ⟨g3, 0, none⟩) ln c3] 27)) := (by repeat (first | assumption | exact Below.refl _ _ | exact below_beyond _ _ | refine Below.beyond ?_ (by (try simp [size_beyond]) <;> omega) _ | refine Below.drew ?_ | refine Go.Rw.below_drewN ?_ _ | refine Go.Rw.below_setRow ?_ (by (try simp [size_beyond]) <;> omega) _ | refine Below.alloc ?_ (by (try simp [size_beyond]) <;> omega) _ | refine Below.setCell ?_ (by (try simp [size_beyond]) <;> omega) _))
          have HB3 := Lib.hid (show Below w.heap.size w w' from ((HB.out.trans (HB2.out.mono hB)).trans (hb2.mono (by omega))).grown hgr (by simp; omega) (fun r hr => (HO.out.lt r hr).1))
          have HH3 := Lib.hid (HeldI.grown (HH2.out.below hb2) HOA.out hgr)
          have HO3 := Lib.hid (show w'.ownsRow w.heap.size 27 1 v' (us ++ [Value.slice (some ⟨g3, 0, none⟩) ln c3]).length (us ++ [Value.slice (some ⟨g3, 0, none⟩) ln c3]) by rw [List.length_append]; exact hown)
          clear hown hgr hb2
          go_wp2
          go_roundw
          case rel => exact ⟨j + 1, by omega, by go_num, _, HO3, HH3, HB3⟩
          case measure => simp [intOf]; omega
        · obtain rfl : j = vs.length := by omega
          have HH2 := Lib.hid (show HeldI (subsL (l.take (k + 1))) us wr by
            rw [HX.out, subsL_snoc, subStep, HL0.out]
            have := HH.out
            rwa [show L0.take vs.length = L0 from List.take_of_length_le (by rw [HVL.out]; exact Nat.le_refl _)] at this)
          go_wp2
          go_roundw
          case rel => refine ⟨k + 1, ?_, by go_num, us, HO, HH2, HB⟩; exact HLT.out
          case measure => have := HLT.out; simp [intOf]; omega
    · obtain rfl : k = m := by omega
      have HT := Lib.hid (show l.take k = l from List.take_of_length_le (by rw [← HM.out]; exact Nat.le_refl _))
      have HLE := Lib.hid hlen
      clear hlen hpos hgg htk hsz
      go_wp2
      go_ret
      have hlen := HLE.out
      have hb := HB.out
      have hh := HH.out
      have ho := HO.out
      rw [HT.out] at hh hlen
      obtain ⟨y, rfl⟩ := beyond_of hb
      have hgb : g < (beyond w y).heap.size := by
        rcases ho.2 with ⟨e, _⟩ | ⟨g', cap', cur', e, _, hgg', _⟩
        · cases e
        · cases e; exact (Array.getElem?_eq_some_iff.1 hgg').1
      refine ⟨_, _, _, _, rfl, rfl, ⟨hh.all.1, by rw [hh.all.1]; omega, hn, hcap, g, rfl, hgb, fun i s hx => ?_⟩⟩
      obtain ⟨g2, c2, h1, h2⟩ := hh.all.2 i s hx
      refine ⟨g2, c2, ?_, h2⟩
      have e := World.ownsRow.cells ho (g := g) rfl i _ h1
      have e2 : (⟨g, 0, Option.none⟩ : Addr).add i = ⟨g, i, Option.none⟩ := by unfold Addr.add; split <;> simp_all
      rw [← e2]; exact e
end Go.Proofs.YtjneboajbmabbaaDoor.ref1
