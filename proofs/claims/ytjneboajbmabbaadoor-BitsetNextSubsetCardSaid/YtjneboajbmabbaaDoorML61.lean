/-
  BitsetNextSubset: the call answers true whatever its arguments: the frame.
-/
import Derived.Test.YtjneboajbmabbaaDoorMB1
import Derived.Test.YtjneboajbmabbaaDoorMB2
import Derived.Test.YtjneboajbmabbaaDoorCards
import Derived.Test.YtjneboajbmabbaaDoorTie
import Derived.Test.YtjneboajbmabbaaDoorCanAG
import Derived.WalkKit
import Derived.ProofKit
import Derived.OpenShut
import Derived.Deep.DeepHandedRow
import Derived.Laws.AppendOwnNone
set_option linter.unusedSimpArgs false
set_option linter.unusedVariables false
namespace Go.Proofs.YtjneboajbmabbaaDoor.bitsetNextSubset
open Go.ChangeShapes Go.WideShapes Go.ChangeAt Go.RowKit Go.Joins Go.Own

theorem own : ownKnob Tryd.prog.godebug = none := by kernel_rfl
theorem pc : Can.PC2 Tryd.prog := .of_bool (by kernel_rfl)
noncomputable def tab : Nat → Array Value
  | 0 => Can.tabCells Rows.laid_math_bits_deBruijn64tab
  | 1 => Can.tabCells Rows.laid_internal_strconv_uint64pow10
  | 2 => Can.tabCells Rows.laid_math_bits_deBruijn32tab
  | _ => #[]
noncomputable def H0 (T : Nat → TypeId) : Array Obj := #[.cells (tab 0) (T 0), .cells (tab 1) (T 1), .cells (tab 2) (T 2)]
theorem tabAt (T : Nat → TypeId) (g : Nat) (hg : g ∈ ([0, 1, 2] : List Nat)) : (H0 T)[g]? = some (.cells (tab g) (T g) (0, 0)) := by
  simp only [List.mem_cons, List.not_mem_nil, or_false] at hg
  rcases hg with rfl | rfl | rfl
  all_goals rfl
theorem tabPlain (g : Nat) (hg : g ∈ ([0, 1, 2] : List Nat)) : (tab g).all (Can.plainV 60) = true := by
  simp only [List.mem_cons, List.not_mem_nil, or_false] at hg
  rcases hg with rfl | rfl | rfl
  all_goals kernel_rfl
set_option maxRecDepth 100000 in
theorem knownTrue (T : Nat → TypeId) : Can.evTrue (Can.evS Tryd.prog [0, 1, 2] (Can.noSm) 3000 (.call 24 #[]) (Can.AW.start (H0 T))) = true := by kernel_rfl
noncomputable def sm : Can.RecD := Can.orSmD (Can.liftSm (Can.knownSm 24 tab [0, 1, 2])) (Can.liftSm (Can.noSm))
theorem sums : Can.RecOkD Tryd.prog [0, 1, 2] sm := Can.orSmD_ok (Can.liftSm_ok (Can.knownSm_ok pc (Can.noSm_ok) tabAt tabPlain knownTrue)) (Can.liftSm_ok (Can.noSm_ok))
theorem known {W : World} (hL : laidMetH Tryd.prog Rows.bitsetNextSubsetRow.laid W) : Can.Known (H0 (Can.tyAt W)) (Can.onG [0, 1, 2]) W := by
  refine Can.known_onG fun g hg => ?_
  simp only [List.mem_cons, List.not_mem_nil, or_false] at hg
  rcases hg with rfl | rfl | rfl
  · exact ⟨tab 0, Can.tyAt W 0, rfl, Can.laid_tab hL (by kernel_rfl) (List.mem_of_getElem? (i := 1) rfl) (by kernel_rfl) (by kernel_rfl) (by decide +kernel), by kernel_rfl⟩
  · exact ⟨tab 1, Can.tyAt W 1, rfl, Can.laid_tab hL (by kernel_rfl) (List.mem_of_getElem? (i := 2) rfl) (by kernel_rfl) (by kernel_rfl) (by decide +kernel), by kernel_rfl⟩
  · exact ⟨tab 2, Can.tyAt W 2, rfl, Can.laid_tab hL (by kernel_rfl) (List.mem_of_getElem? (i := 0) rfl) (by kernel_rfl) (by kernel_rfl) (by decide +kernel), by kernel_rfl⟩
end Go.Proofs.YtjneboajbmabbaaDoor.bitsetNextSubset

namespace Go.Proofs.YtjneboajbmabbaaDoor.ref1
open Go.RowKit Go.Own Go.Rw Go.SetL Go.Bits Go.Tz
set_option maxHeartbeats 1000000
set_option maxRecDepth 100000
attribute [local irreducible] beyond grow over

def above (r : List Int) (n : Int) : List Int := r.filter fun x => decide (n < x)
def stepN (r p : List Int) (n : Int) : Bool := !r.contains n && (minusL (above r n) p).length == 0
def nextL (r p : List Int) : List Int × Bool := match p.find? (stepN r p) with
  | some n => (n :: above r n, true)
  | none => ([], false)
theorem above_snoc {r : List Int} {k : Nat} {x n : Int} (h : r[k]? = some x) : above (r.take (k + 1)) n = above (r.take k) n ++ if n < x then [x] else [] := by
  unfold above; rw [take_next h, List.filter_append]; by_cases hx : n < x <;> simp [hx]
theorem above_len (r : List Int) (n : Int) : (above r n).length ≤ r.length := List.length_filter_le _ _
theorem own_one {w : World} {B : Nat} (T : TypeId) (hb : B ≤ w.heap.size) (n : Int) : Own (w.alloc (.cells #[.int .i64 n] T)) B T (.slice (some ⟨w.heap.size, 0, none⟩) 1 1) [n] :=
  ⟨by simp, .inr ⟨w.heap.size, 1, #[.int .i64 n], rfl, hb, heap_alloc_new w _, Nat.le_refl _, by unfold maxLen; omega, rfl, rfl⟩⟩
theorem cells_one (l : List Int) : ∀ u ∈ l.map (Value.int .i64), u.oneCell' = true := by
  intro u hu; obtain ⟨x, _, rfl⟩ := List.mem_map.1 hu; rfl
/-- append(out, l...) -/
theorem wpList_appS {P : Program} {ops : Array Oper} {rest : List Oper} {o : Oper} {a : Act} {Q : Exit → Act → World → Prop} (w : World) (hgd : o.guard = none) (s x : Operand) (t : TypeId)
    (ho : o.op = .call { callee := .builtin .append, args := #[s, x], argTypes := #[t, t] }) {T : TypeId} (ht : P.underlying t = some (.slice T))
    (hT : (P.info? T).map (fun i => (i.zero, i.size, i.bytes)) = some (some (.int .i64 0), 1, 8))
    {v : Value} {l : List Int} {B : Nat} (hown : Own w B T v l) (hB : B ≤ w.heap.size) {u : Value} {l2 : List Int} {B2 : Nat} (hown2 : Own w B2 T u l2) (hl : l.length + l2.length ≤ 1000000)
    (hs : a.eval s = v) (hx : a.eval x = u)
    (h : ∀ v' w', Own w' B T v' (l ++ l2) → Below B w w' → wpList P ops Q rest (a.put o.dst v') w') : wpList P ops Q (o :: rest) a w := by
  obtain ⟨i0, hi, hz0, hz1, hz2⟩ := info_parts hT
  rcases hown2.2 with ⟨rfl, hk⟩ | ⟨g, cap, cur, rfl, hb', hgg, hn, hc, hsz, htk⟩
  · obtain rfl := List.eq_nil_of_length_eq_zero hk
    exact wpList_append_own_none hgd s x t ho B T i0 1 ht hi v l.length (l.map (Value.int .i64)) hs hown hx (h v w (by simpa using hown) (Below.refl _ _))
  · refine wpList_append_own w hgd s x t ho B T i0 (.int .i64 0) 1 8 ht hi hz0 hz1 hz2 rfl (by decide) v l.length (l.map (Value.int .i64)) hs hown _ l2.length cap (l2.map (Value.int .i64)) hx (by simp) (fun j u hu => World.ownsRow.cells hown2 (g := g) rfl j u hu) (cells_one l2) (by unfold maxLen; omega) (by omega) hB ?_
    intro v' w' h1 h2 _
    refine h v' w' ?_ ?_
    · unfold Own; simpa using h1
    · exact (Below.refl _ _).grown h2 hB (fun r hr => (hown.lt r hr).1)
theorem find_take {f : Int → Bool} : ∀ {p : List Int} {k : Nat} {n : Int}, (∀ x ∈ p.take k, f x = false) → p[k]? = some n → f n = true → p.find? f = some n
  | [], _, _, _, h, _ => by simp at h
  | a :: p, 0, n, _, h, hf => by simp at h; subst h; simp [hf]
  | a :: p, k + 1, n, h0, h, hf => by
    have ha := h0 a (by simp)
    rw [List.find?_cons, ha]
    exact find_take (k := k) (fun x hx => h0 x (by simp [hx])) (by simpa using h) hf
/-- a row is stored over a block that holds one -/
theorem wpList_store_over {P : Program} {ops : Array Oper} {rest : List Oper} {op : Oper} {a : Act} {w : World} {Q : Exit → Act → World → Prop} (hgd : op.guard = none) (ty : TypeId) (x y : Operand) (ho : op.op = .store ty x y)
    (cells : Array Value) (t : TypeId) (old : Array Value) (g : Nat) (hx : a.eval x = .pointer (some ⟨g, 0, none⟩)) (hg : BlkAt g old t w) (hy : a.eval y = .agg cells)
    (hi : (P.info? ty).map (·.size) = some cells.size) (hs : old.size = cells.size) (h1 : cells.all (·.oneCell') = true)
    (h : ∀ w', (∀ g' cs' t', g' ≠ g → BlkAt g' cs' t' w → BlkAt g' cs' t' w') → BlkAt g cells t w' → Below g w w' → wpList P ops Q rest (a.put op.dst undef) w') : wpList P ops Q (op :: rest) a w := by
  refine wpList_store_block hgd ty x y ho g cells t old hx hy hg.all hi hs h1 ?_
  refine h _ (fun g' cs' t' hne hk => ⟨?_⟩) ⟨?_⟩ (below_setRow (Below.refl _ _) (Nat.le_refl _) _)
  · have := hk.all
    unfold blockOf at this ⊢
    simp only [World.setRow, Array.getElem?_modify]
    rw [if_neg (fun e => hne e.symm)]; exact this
  · have := hg.all
    unfold blockOf at this ⊢
    simp [World.setRow, Array.getElem?_modify, this]
/-- what Next hands back -/
def RetN (W : World) (l : List Int) (b : Bool) (e : Ending) (w' : World) : Prop := ∃ q m c y, e = .returned (.tuple #[.slice q m c, .bool b]) ∧ w' = beyond W y ∧ IsAt q m c l w'
theorem rnext_calls {q q2 : Option Addr} {m c m2 c2 : Nat} {r p : List Int} {w : World} (h : IsAt q m c r w) (h2 : IsAt q2 m2 c2 p w) (hr : m ≤ 100000) :
    Calls Tryd.prog 45 #[.slice q m c, .slice q2 m2 c2] w (RetN w (nextL r p).1 (nextL r p).2) := by
  have HA := Lib.hid h
  have HA2 := Lib.hid h2
  have hb2 := h2.all.2.1
  clear h h2
  go_enter Tryd.func45, Tryd.ntmps45
  go_wp2
  go_loopw [6] (fun i wo => ∃ k : Nat, k ≤ m2 ∧ i = .int .i64 k ∧ Hid (∀ x ∈ p.take k, stepN r p x = false) ∧ ∃ y, wo = beyond w y) (fun i _ => m2 - (intOf i).toNat)
  case atStart => exact ⟨0, Nat.zero_le _, rfl, Lib.hid (by simp), beyond_of (by repeat (first | assumption | exact Below.refl _ _ | exact below_beyond _ _ | refine Below.beyond ?_ (by (try simp [size_beyond]) <;> omega) _ | refine Below.drew ?_ | refine Go.Rw.below_drewN ?_ _ | refine Go.Rw.below_setRow ?_ (by (try simp [size_beyond]) <;> omega) _ | refine Below.alloc ?_ (by (try simp [size_beyond]) <;> omega) _ | refine Below.setCell ?_ (by (try simp [size_beyond]) <;> omega) _))⟩
  case round =>
    obtain ⟨k, hk, rfl, HN, yo, rfl⟩ := hrel
    by_cases hlt : k < m2
    · obtain ⟨b, off, n, rfl, hx, hbw, hc⟩ := HA2.out.all.2.2.2.2.at (k := k) (by rw [← HA2.out.all.1]; exact hlt)
      have hc := ((below_beyond w yo).cell hbw).trans hc
      have HX := Lib.hid hx; clear hx
      cases hcn : r.contains n
      · have HCN := Lib.hid hcn; clear hcn
        go_wp2_with (go_at_call 22; refine (rhas_at n (HA.out.below (by repeat (first | assumption | exact Below.refl _ _ | exact below_beyond _ _ | refine Below.beyond ?_ (by (try simp [size_beyond]) <;> omega) _ | refine Below.drew ?_ | refine Go.Rw.below_drewN ?_ _ | refine Go.Rw.below_setRow ?_ (by (try simp [size_beyond]) <;> omega) _ | refine Below.alloc ?_ (by (try simp [size_beyond]) <;> omega) _ | refine Below.setCell ?_ (by (try simp [size_beyond]) <;> omega) _)))).mono ?_; rw [HCN.out]; rintro e w1 ⟨rfl, rfl⟩)
        generalize hW1 : beyond w yo = W1
        have HB0 := Lib.hid (show Below w.heap.size w W1 from hW1 ▸ below_beyond w yo)
        have hs0 := HB0.out.size
        rw [hW1] at hc
        clear hW1
        go_loopw [8, 9] (fun v i wr => ∃ j : Nat, j ≤ m ∧ i = .int .i64 j ∧ Hid (Own wr W1.heap.size 3 v (above (r.take j) n)) ∧ Hid (Below W1.heap.size W1 wr)) (fun _ i _ => m - (intOf i).toNat)
        case atStart => exact ⟨0, Nat.zero_le _, rfl, Lib.hid (Own.made _ (Nat.le_refl _)), Lib.hid (by repeat (first | assumption | exact Below.refl _ _ | exact below_beyond _ _ | refine Below.beyond ?_ (by (try simp [size_beyond]) <;> omega) _ | refine Below.drew ?_ | refine Go.Rw.below_drewN ?_ _ | refine Go.Rw.below_setRow ?_ (by (try simp [size_beyond]) <;> omega) _ | refine Below.alloc ?_ (by (try simp [size_beyond]) <;> omega) _ | refine Below.setCell ?_ (by (try simp [size_beyond]) <;> omega) _))⟩
        case round =>
          obtain ⟨j, hj, rfl, HO, HB⟩ := hrel
          have hB : W1.heap.size ≤ wr.heap.size := HB.out.size
          have HL : (above (r.take j) n).length ≤ 100000 := Nat.le_trans (above_len _ _) (by simp; omega)
          by_cases hjm : j < m
          · obtain ⟨b3, off3, x, rfl, hx3, hbw3, hc3⟩ := (HA.out.all.2.2.2.2.below (HB0.out.trans (HB.out.mono hs0))).at (k := j) (by rw [← HA.out.all.1]; exact hjm)
            have HX3 := Lib.hid (above_snoc (n := n) hx3); clear hx3
            by_cases hnx : n < x
            · go_wp2_with (at_builtin; refine wpList_app wr rfl _ _ _ rfl uI tI HO.out hB (by omega) x rfl rfl ?_)
              intro v' w' hown hbel
              have HO2 := Lib.hid hown; clear hown
              have HB2 := Lib.hid (HB.out.trans hbel); clear hbel
              go_wp2
              go_roundw
              case rel => exact ⟨j + 1, by omega, by go_num, Lib.hid (by rw [HX3.out, if_pos hnx]; exact HO2.out), HB2⟩
              case measure => simp [intOf]; omega
            · go_wp2
              go_roundw
              case rel => exact ⟨j + 1, by omega, by go_num, Lib.hid (by rw [HX3.out, if_neg (by omega), List.append_nil]; exact HO.out), HB⟩
              case measure => simp [intOf]; omega
          · obtain rfl : j = m := by omega
            have HT := Lib.hid (show r.take j = r from List.take_of_length_le (by rw [← HA.out.all.1]; exact Nat.le_refl _))
            rw [HT.out] at HO HL
            obtain ⟨q3, c3, rfl, hc31, hc32, hr3⟩ := HO.out.slice
            have H3 : IsAt q3 (above r n).length c3 (above r n) wr := ⟨rfl, by omega, hc31, hc32, hr3⟩
            have HB1 := Lib.hid (HB0.out.trans (HB.out.mono hs0))
            have hcr := (HB.out.cell (p := ⟨b, off + k, none⟩) (by show b < W1.heap.size; omega)).trans hc
            have HSN := Lib.hid (show stepN r p n = ((minusL (above r n) p).length == 0) by unfold stepN; rw [HCN.out]; rfl)
            clear hc31 hc32 hr3
            generalize (above r n).length = m3 at H3 HL HO ⊢
            cases hst : stepN r p n
            · have HW := Lib.hid (show ((minusL (above r n) p).length == 0) = false by rw [← HSN.out]; exact hst)
              have HST := Lib.hid hst; clear hst
              go_wp2_with (go_at_call 36; refine (within_calls H3.all.1 (by omega) H3.all.2.2.2.2 HA2.out.all.1 (by omega) (HA2.out.all.2.2.2.2.below HB1.out)).mono ?_; rw [HW.out]; rintro e w1 ⟨rfl, y1, rfl⟩)
              go_roundw
              case rel => exact ⟨k + 1, by omega, by go_num, Lib.hid (by
                intro x hx; rw [take_next HX.out] at hx
                rcases List.mem_append.1 hx with h | h
                · exact HN.out x h
                · simp at h; subst h; exact HST.out), beyond_of (HB1.out.trans ((below_beyond _ _).mono HB1.out.size))⟩
              case measure => simp [intOf]; omega
            · have HW := Lib.hid (show ((minusL (above r n) p).length == 0) = true by rw [← HSN.out]; exact hst)
              have HST := Lib.hid hst; clear hst
              go_wp2_with (first | (go_at_call 36; refine (within_calls H3.all.1 (by omega) H3.all.2.2.2.2 HA2.out.all.1 (by omega) (HA2.out.all.2.2.2.2.below HB1.out)).mono ?_; rw [HW.out]; rintro e w1 ⟨rfl, y1, rfl⟩) | (at_builtin; refine wpList_appS _ rfl _ _ _ rfl uI tI (own_one 3 (Nat.le_refl _) n) (by simp) (Own.below (Own.below HO.out (below_beyond wr y1)) (by repeat (first | assumption | exact Below.refl _ _ | exact below_beyond _ _ | refine Below.beyond ?_ (by (try simp [size_beyond]) <;> omega) _ | refine Below.drew ?_ | refine Go.Rw.below_drewN ?_ _ | refine Go.Rw.below_setRow ?_ (by (try simp [size_beyond]) <;> omega) _ | refine Below.alloc ?_ (by (try simp [size_beyond]) <;> omega) _ | refine Below.setCell ?_ (by (try simp [size_beyond]) <;> omega) _))) (by have := above_len r n; have := HA.out.all.1; simp; omega) rfl rfl ?_))
              intro v' w' hown hbel
              have hown : Own w' _ _ _ (n :: above r n) := hown
              obtain ⟨q4, c4, rfl, hc41, hc42, hr4⟩ := hown.slice
              have H4 : IsAt q4 (n :: above r n).length c4 (n :: above r n) w' := ⟨rfl, by have := above_len r n; have := HA.out.all.1; simp; omega, hc41, hc42, hr4⟩
              have HE := Lib.hid (show nextL r p = (n :: above r n, true) by
                unfold nextL; rw [find_take HN.out HX.out HST.out])
              have HB5 := Lib.hid (show Below w.heap.size w w' from (HB1.out.trans ((below_beyond wr y1).mono HB1.out.size)).trans (Below.trans (Below.alloc (Below.refl _ _) (Nat.le_refl _) _ |>.mono (by have := HB1.out.size; simp [size_beyond]; omega)) (hbel.mono (by have := HB1.out.size; simp [size_beyond]; omega))))
              clear hown hbel hc41 hc42 hr4
              generalize (n :: above r n).length = m4 at H4 ⊢
              go_wp2
              go_ret2
              rw [HE.out]
              exact ⟨_, _, _, _, rfl, (beyond_of HB5.out).choose_spec, H4⟩
      · have HCN := Lib.hid hcn; clear hcn
        go_wp2_with (go_at_call 22; refine (rhas_at n (HA.out.below (by repeat (first | assumption | exact Below.refl _ _ | exact below_beyond _ _ | refine Below.beyond ?_ (by (try simp [size_beyond]) <;> omega) _ | refine Below.drew ?_ | refine Go.Rw.below_drewN ?_ _ | refine Go.Rw.below_setRow ?_ (by (try simp [size_beyond]) <;> omega) _ | refine Below.alloc ?_ (by (try simp [size_beyond]) <;> omega) _ | refine Below.setCell ?_ (by (try simp [size_beyond]) <;> omega) _)))).mono ?_; rw [HCN.out]; rintro e w1 ⟨rfl, rfl⟩)
        go_roundw
        case rel => exact ⟨k + 1, by omega, by go_num, Lib.hid (by
          intro x hx; rw [take_next HX.out] at hx
          rcases List.mem_append.1 hx with h | h
          · exact HN.out x h
          · simp at h; subst h; unfold stepN; rw [HCN.out]; rfl), beyond_of (by repeat (first | assumption | exact Below.refl _ _ | exact below_beyond _ _ | refine Below.beyond ?_ (by (try simp [size_beyond]) <;> omega) _ | refine Below.drew ?_ | refine Go.Rw.below_drewN ?_ _ | refine Go.Rw.below_setRow ?_ (by (try simp [size_beyond]) <;> omega) _ | refine Below.alloc ?_ (by (try simp [size_beyond]) <;> omega) _ | refine Below.setCell ?_ (by (try simp [size_beyond]) <;> omega) _))⟩
        case measure => simp [intOf]; omega
    · obtain rfl : k = m2 := by omega
      have HT := Lib.hid (show p.take k = p from List.take_of_length_le (by rw [← HA2.out.all.1]; exact Nat.le_refl _))
      have HE := Lib.hid (show nextL r p = ([], false) by
        unfold nextL; rw [List.find?_eq_none.2]
        intro x hx; have := HN.out; rw [HT.out] at this; rw [this x hx]; decide)
      go_wp2
      go_ret2
      rw [HE.out]
      exact ⟨_, _, _, _, rfl, (beyond_of (by repeat (first | assumption | exact Below.refl _ _ | exact below_beyond _ _ | refine Below.beyond ?_ (by (try simp [size_beyond]) <;> omega) _ | refine Below.drew ?_ | refine Go.Rw.below_drewN ?_ _ | refine Go.Rw.below_setRow ?_ (by (try simp [size_beyond]) <;> omega) _ | refine Below.alloc ?_ (by (try simp [size_beyond]) <;> omega) _ | refine Below.setCell ?_ (by (try simp [size_beyond]) <;> omega) _))).choose_spec, ⟨rfl, by omega, Nat.le_refl _, Nat.zero_le _, .inl rfl⟩⟩
end Go.Proofs.YtjneboajbmabbaaDoor.ref1

namespace Go.Proofs.YtjneboajbmabbaaDoor.ref1
open Go.RowKit Go.Own Go.Rw Go.SetL Go.Bits Go.Tz

theorem find_sorted {f : Int → Bool} : ∀ {l : List Int} {n : Int}, l.Pairwise (· < ·) → n ∈ l → f n = true → (∀ x ∈ l, x < n → f x = false) → l.find? f = some n
  | [], _, _, h, _, _ => by cases h
  | a :: l, n, hs, hm, hf, hb => by
    obtain ⟨ha, hl⟩ := List.pairwise_cons.1 hs
    rcases List.mem_cons.1 hm with rfl | h
    · simp [hf]
    · have := hb a (by simp) (ha n h)
      rw [List.find?_cons, this]
      exact find_sorted hl h hf fun x hx => hb x (by simp [hx])
theorem step_iff {xs ys : List W} {i : Nat} (hi : i < 1024) : stepN (elems xs) (elems ys) (i : Int) = true ↔ bitAt xs i = false ∧ ∀ j, i < j → j < 1024 → bitAt xs j = true → bitAt ys j = true := by
  unfold stepN
  rw [Bool.and_eq_true, Bool.not_eq_true', show (elems xs).contains (i : Int) = bitAt xs i from contains_ofP _ _ hi, beq_iff_eq]
  refine and_congr_right fun _ => ?_
  constructor
  · intro h j hj hj2 hb
    have h0 := List.eq_nil_of_length_eq_zero h
    have hm : (j : Int) ∈ above (elems xs) (i : Int) := List.mem_filter.2 ⟨mem_ofP.2 ⟨j, rfl, hj2, hb⟩, by simp; omega⟩
    cases hy : bitAt ys j
    · have : (j : Int) ∈ minusL (above (elems xs) (i : Int)) (elems ys) := List.mem_filter.2 ⟨hm, by rw [show (elems ys).contains (j : Int) = bitAt ys j from contains_ofP _ _ hj2, hy]; rfl⟩
      rw [h0] at this; cases this
    · rfl
  · intro h
    rw [List.length_eq_zero_iff, List.eq_nil_iff_forall_not_mem]
    intro x hx
    obtain ⟨h1, h2⟩ := List.mem_filter.1 hx
    obtain ⟨h3, h4⟩ := List.mem_filter.1 h1
    obtain ⟨j, rfl, h5, h6⟩ := mem_ofP.1 h3
    rw [show (elems ys).contains (j : Int) = bitAt ys j from contains_ofP _ _ h5, h j (by simpa using h4) h5 h6] at h2
    cases h2
/-- what is free above the top of what is not in the larger set -/
def free2 (xs ys : List W) (t : Int) (b : Bool) : List W := if b = true then subR (subR ys xs) (belowS (t + 1)) else subR ys xs
theorem free2_len {xs ys : List W} (hx : xs.length = 16) (hy : ys.length = 16) (t : Int) (b : Bool) : (free2 xs ys t b).length = 16 := by
  unfold free2; split
  · exact sub16_len (sub16_len hy hx) (belowS_len _)
  · exact sub16_len hy hx
theorem bit_sub {xs ys : List W} (hx : xs.length = 16) (hy : ys.length = 16) {i : Nat} (hi : i < 1024) : bitAt (subR xs ys) i = (bitAt xs i && !bitAt ys i) :=
  bitAt_zip (fun a b => a &&& ~~~b) (fun a b => a && !b) (fun a b i h => by simp [h]) hx hy hi
theorem free_iff {xs ys : List W} (hx : xs.length = 16) (hy : ys.length = 16) {t : Int} {b : Bool} (ht : IsMax (subR xs ys) t b) {i : Nat} (hi : i < 1024) :
    bitAt (free2 xs ys t b) i = true ↔ bitAt ys i = true ∧ stepN (elems xs) (elems ys) (i : Int) = true := by
  rw [step_iff hi]
  rcases ht with ⟨rfl, k, rfl, h1, h2, h3⟩ | ⟨rfl, rfl, h0⟩
  · unfold free2
    rw [if_pos rfl, bit_sub (sub16_len hy hx) (belowS_len _) hi, bit_sub hy hx hi, bitAt_below _ i hi]
    rw [bit_sub hx hy h1] at h2
    simp only [Bool.and_eq_true, Bool.not_eq_true', decide_eq_false_iff_not] at h2 ⊢
    constructor
    · rintro ⟨⟨a1, a2⟩, a3⟩
      refine ⟨a1, a2, fun j hj hj2 hb => ?_⟩
      have h4 := h3 j (by omega) hj2
      rw [bit_sub hx hy hj2, hb] at h4
      simpa using h4
    · rintro ⟨a1, a2, a3⟩
      refine ⟨⟨a1, a2⟩, fun hlt => ?_⟩
      rcases Nat.lt_or_ge i k with h4 | h4
      · have := a3 k h4 h1 h2.1
        rw [h2.2] at this; cases this
      · obtain rfl : i = k := by omega
        rw [h2.2] at a1; cases a1
  · unfold free2
    rw [if_neg (by decide), bit_sub hy hx hi]
    simp only [Bool.and_eq_true, Bool.not_eq_true']
    constructor
    · rintro ⟨a1, a2⟩
      refine ⟨a1, a2, fun j hj hj2 hb => ?_⟩
      have h4 := h0 j hj2
      rw [bit_sub hx hy hj2, hb] at h4
      simpa using h4
    · rintro ⟨a1, a2, _⟩; exact ⟨a1, a2⟩
theorem next_no {xs ys : List W} (hx : xs.length = 16) (hy : ys.length = 16) {t n : Int} {b : Bool} (ht : IsMax (subR xs ys) t b) (hm : IsMin (free2 xs ys t b) n false) : nextL (elems xs) (elems ys) = ([], false) := by
  unfold nextL
  rw [List.find?_eq_none.2]
  intro x hx'
  obtain ⟨i, rfl, h1, h2⟩ := mem_ofP.1 hx'
  rcases hm with ⟨h, _⟩ | ⟨_, _, h0⟩
  · cases h
  · intro hs
    have := (free_iff hx hy ht h1).2 ⟨h2, hs⟩
    rw [h0 i h1] at this; cases this
theorem next_yes {xs ys : List W} (hx : xs.length = 16) (hy : ys.length = 16) {t n : Int} {b : Bool} (ht : IsMax (subR xs ys) t b) (hm : IsMin (free2 xs ys t b) n true) :
    nextL (elems xs) (elems ys) = (n :: above (elems xs) n, true) ∧ rowOf (n :: above (elems xs) n) = withS (subR xs (belowS n)) n ∧ 0 ≤ n ∧ n < 1024 := by
  rcases hm with ⟨_, k, rfl, h1, h2, h3⟩ | ⟨h, _⟩
  · have hk := (free_iff hx hy ht h1).1 h2
    refine ⟨?_, ?_, by omega, by omega⟩
    · unfold nextL
      rw [find_sorted (l := elems ys) (n := (k : Int)) (sorted_ofP (bitAt ys)) (mem_ofP.2 ⟨k, rfl, h1, hk.1⟩) hk.2 fun x hx' hlt => ?_]
      obtain ⟨i, rfl, h4, h5⟩ := mem_ofP.1 hx'
      rw [Bool.eq_false_iff]
      intro hs
      have := (free_iff hx hy ht h4).2 ⟨h5, hs⟩
      rw [h3 i (by omega)] at this; cases this
    · refine elems_inj (rowOf_len _) (by rw [withS_len]; exact sub16_len hx (belowS_len _)) ?_
      rw [elems_rowOf, elems_with (sub16_len hx (belowS_len _)), elems_sub hx (belowS_len _)]
      refine ext_sorted (foldl_sorted .nil) (sorted_withL ((sorted_ofP _).filter _)) fun x => ?_
      have hbel : ∀ j : Nat, j < 1024 → (elems (belowS (k : Int))).contains (j : Int) = decide ((j : Int) < (k : Int)) := fun j hj => (contains_ofP _ _ hj).trans (bitAt_below _ j hj)
      simp only [ofL, foldl_with, List.not_mem_nil, false_or, mem_withL, minusL, above, List.mem_cons, List.mem_filter]
      constructor
      · rintro ⟨rfl | ⟨a1, a2⟩, a3, a4⟩
        · exact .inr ⟨rfl, by omega, by omega⟩
        · obtain ⟨j, rfl, h4, h5⟩ := mem_ofP.1 a1
          refine .inl ⟨a1, ?_⟩
          rw [hbel j h4]
          simp only [decide_eq_true_eq] at a2
          rw [decide_eq_false (by omega)]; rfl
      · rintro (⟨a1, a2⟩ | ⟨rfl, a3, a4⟩)
        · obtain ⟨j, rfl, h4, h5⟩ := mem_ofP.1 a1
          rw [hbel j h4] at a2
          refine ⟨?_, by omega, by omega⟩
          by_cases e : (j : Int) = k
          · exact .inl e
          · refine .inr ⟨a1, ?_⟩
            simp at a2 ⊢; omega
        · exact ⟨.inl rfl, by omega, by omega⟩
  · cases h
end Go.Proofs.YtjneboajbmabbaaDoor.ref1

namespace Go.Proofs.YtjneboajbmabbaaDoor.ref1
open Go.RowKit Go.Own Go.Rw Go.SetL Go.Bits Go.Tz
set_option maxHeartbeats 1000000
set_option maxRecDepth 100000
attribute [local irreducible] beyond grow over

theorem nset_calls {xs ys : List W} (hx : xs.length = 16) (hy : ys.length = 16) (w : World) (hT : TzW w) :
    Calls Tryd.prog 44 #[.agg (rowW xs), .agg (rowW ys)] w fun e w' => e = .returned (.tuple #[.agg (rowW (rowOf (nextL (elems xs) (elems ys)).1)), .bool (nextL (elems xs) (elems ys)).2]) ∧ ∃ y, w' = beyond w y := by
  have HX := Lib.hid hx
  have HY := Lib.hid hy
  have HT := Lib.hid hT
  have HZ := Lib.hid (show (rowW xs).size = 16 by rw [rowW_size, hx])
  have HZ2 := Lib.hid (show (rowW ys).size = 16 by rw [rowW_size, hy])
  have HZF := Lib.hid (show (rowW (subR ys xs)).size = 16 by rw [rowW_size]; exact sub16_len hy hx)
  clear hx hy hT
  have K1 : BlkAt w.heap.size (rowW xs) 25 (((w.alloc (.cells (rowW xs) 25)).alloc (.cells (rowW ys) 25)).alloc (.cells #[.int .u64 0, .int .u64 0, .int .u64 0, .int .u64 0, .int .u64 0, .int .u64 0, .int .u64 0, .int .u64 0, .int .u64 0, .int .u64 0, .int .u64 0, .int .u64 0, .int .u64 0, .int .u64 0, .int .u64 0, .int .u64 0] 25)) := ⟨by simp [go_sem, inW]⟩
  have K2 : BlkAt (w.heap.size + 1) (rowW ys) 25 (((w.alloc (.cells (rowW xs) 25)).alloc (.cells (rowW ys) 25)).alloc (.cells #[.int .u64 0, .int .u64 0, .int .u64 0, .int .u64 0, .int .u64 0, .int .u64 0, .int .u64 0, .int .u64 0, .int .u64 0, .int .u64 0, .int .u64 0, .int .u64 0, .int .u64 0, .int .u64 0, .int .u64 0, .int .u64 0] 25)) := ⟨by simp [go_sem, inW]⟩
  have K3 : BlkAt (w.heap.size + 1 + 1) #[.int .u64 0, .int .u64 0, .int .u64 0, .int .u64 0, .int .u64 0, .int .u64 0, .int .u64 0, .int .u64 0, .int .u64 0, .int .u64 0, .int .u64 0, .int .u64 0, .int .u64 0, .int .u64 0, .int .u64 0, .int .u64 0] 25 (((w.alloc (.cells (rowW xs) 25)).alloc (.cells (rowW ys) 25)).alloc (.cells #[.int .u64 0, .int .u64 0, .int .u64 0, .int .u64 0, .int .u64 0, .int .u64 0, .int .u64 0, .int .u64 0, .int .u64 0, .int .u64 0, .int .u64 0, .int .u64 0, .int .u64 0, .int .u64 0, .int .u64 0, .int .u64 0] 25)) := ⟨by simp [go_sem, inW]⟩
  go_enter Tryd.func44, Tryd.ntmps44
  go_wp2_with (first | (refine wpList_load_any (by kernel_rfl) 25 (.tmp 2) rfl _ (rowW xs) 25 _ rfl (BlkAt.all (by first | (with_reducible assumption) | (refine BlkAt.below (by with_reducible assumption) ?_; exact (by repeat (first | assumption | exact Below.refl _ _ | exact below_beyond _ _ | refine Below.beyond ?_ (by (try simp [size_beyond]) <;> omega) _ | refine Below.drew ?_ | refine Go.Rw.below_drewN ?_ _ | refine Go.Rw.below_setRow ?_ (by (try simp [size_beyond]) <;> omega) _ | refine Below.alloc ?_ (by (try simp [size_beyond]) <;> omega) _ | refine Below.setCell ?_ (by (try simp [size_beyond]) <;> omega) _))))) Tryd.underlying25 rfl (by rw [HZ.out]; exact sInfo) ?_) | (refine wpList_load_any (by kernel_rfl) 25 (.tmp 3) rfl _ (rowW ys) 25 _ rfl (BlkAt.all (by first | (with_reducible assumption) | (refine BlkAt.below (by with_reducible assumption) ?_; exact (by repeat (first | assumption | exact Below.refl _ _ | exact below_beyond _ _ | refine Below.beyond ?_ (by (try simp [size_beyond]) <;> omega) _ | refine Below.drew ?_ | refine Go.Rw.below_drewN ?_ _ | refine Go.Rw.below_setRow ?_ (by (try simp [size_beyond]) <;> omega) _ | refine Below.alloc ?_ (by (try simp [size_beyond]) <;> omega) _ | refine Below.setCell ?_ (by (try simp [size_beyond]) <;> omega) _))))) Tryd.underlying25 rfl (by rw [HZ2.out]; exact sInfo) ?_))
  go_at_call 33
  refine (subset_calls HY.out HX.out _).mono ?_
  rintro e w1 ⟨rfl, y1, rfl⟩
  go_wp2_with (first
    | (refine wpList_store_fresh rfl 25 (.tmp 6) (.tmp 13) rfl (rowW (subR ys xs)) 25 _ _ rfl rfl rfl (by rw [HZF.out]; exact sInfo) (by rw [HZF.out] <;> rfl) (rowW_one _) ?_; intro wr hbel KF; have HWB : Below w.heap.size w wr := Below.trans (by repeat (first | assumption | exact Below.refl _ _ | exact below_beyond _ _ | refine Below.beyond ?_ (by (try simp [size_beyond]) <;> omega) _ | refine Below.drew ?_ | refine Go.Rw.below_drewN ?_ _ | refine Go.Rw.below_setRow ?_ (by (try simp [size_beyond]) <;> omega) _ | refine Below.alloc ?_ (by (try simp [size_beyond]) <;> omega) _ | refine Below.setCell ?_ (by (try simp [size_beyond]) <;> omega) _)) (Below.mono hbel (by simp [size_beyond] <;> omega)); have J1 := (BlkAt.below (K1.below (below_beyond _ y1)) hbel); have J2 := (BlkAt.below (K2.below (below_beyond _ y1)) hbel); have J3 := (BlkAt.below (K3.below (below_beyond _ y1)) hbel); have hws := HWB.size; clear hbel K1 K2 K3)
    | (refine wpList_load_any (by kernel_rfl) 25 (.tmp 2) rfl _ (rowW xs) 25 _ rfl (BlkAt.all (by first | (with_reducible assumption) | (refine BlkAt.below (by with_reducible assumption) ?_; exact (by repeat (first | assumption | exact Below.refl _ _ | exact below_beyond _ _ | refine Below.beyond ?_ (by (try simp [size_beyond]) <;> omega) _ | refine Below.drew ?_ | refine Go.Rw.below_drewN ?_ _ | refine Go.Rw.below_setRow ?_ (by (try simp [size_beyond]) <;> omega) _ | refine Below.alloc ?_ (by (try simp [size_beyond]) <;> omega) _ | refine Below.setCell ?_ (by (try simp [size_beyond]) <;> omega) _))))) Tryd.underlying25 rfl (by rw [HZ.out]; exact sInfo) ?_) | (refine wpList_load_any (by kernel_rfl) 25 (.tmp 3) rfl _ (rowW ys) 25 _ rfl (BlkAt.all (by first | (with_reducible assumption) | (refine BlkAt.below (by with_reducible assumption) ?_; exact (by repeat (first | assumption | exact Below.refl _ _ | exact below_beyond _ _ | refine Below.beyond ?_ (by (try simp [size_beyond]) <;> omega) _ | refine Below.drew ?_ | refine Go.Rw.below_drewN ?_ _ | refine Go.Rw.below_setRow ?_ (by (try simp [size_beyond]) <;> omega) _ | refine Below.alloc ?_ (by (try simp [size_beyond]) <;> omega) _ | refine Below.setCell ?_ (by (try simp [size_beyond]) <;> omega) _))))) Tryd.underlying25 rfl (by rw [HZ2.out]; exact sInfo) ?_))
  go_at_call 33
  refine (subset_calls HX.out HY.out _).mono ?_
  rintro e w1 ⟨rfl, y2, rfl⟩
  have hgf : w.heap.size + 3 ≤ (beyond (((w.alloc (.cells (rowW xs) 25)).alloc (.cells (rowW ys) 25)).alloc (.cells #[.int .u64 0, .int .u64 0, .int .u64 0, .int .u64 0, .int .u64 0, .int .u64 0, .int .u64 0, .int .u64 0, .int .u64 0, .int .u64 0, .int .u64 0, .int .u64 0, .int .u64 0, .int .u64 0, .int .u64 0, .int .u64 0] 25)) y1).heap.size := by rw [size_beyond]; simp
  generalize (beyond (((w.alloc (.cells (rowW xs) 25)).alloc (.cells (rowW ys) 25)).alloc (.cells #[.int .u64 0, .int .u64 0, .int .u64 0, .int .u64 0, .int .u64 0, .int .u64 0, .int .u64 0, .int .u64 0, .int .u64 0, .int .u64 0, .int .u64 0, .int .u64 0, .int .u64 0, .int .u64 0, .int .u64 0, .int .u64 0] 25)) y1).heap.size = gF at hgf KF ⊢
  go_wp2_with (fail)
  go_at_call 16
  refine (max_set (sub16_len HX.out HY.out) _).mono ?_
  rintro e w1 ⟨t, b, y3, rfl, rfl, hmax⟩
  have HMX := Lib.hid hmax; clear hmax
  cases b
  · have HF2 := Lib.hid (show free2 xs ys t false = subR ys xs from if_neg (by decide))
    have HZ6 := Lib.hid (show (rowW (free2 xs ys t false)).size = 16 by rw [rowW_size]; exact free2_len HX.out HY.out _ _)
    have KG : BlkAt gF (rowW (free2 xs ys t false)) 25 wr := by rw [HF2.out]; exact KF
    clear KF
    go_wp2_with ((refine wpList_load_any (by kernel_rfl) 25 (.tmp 6) rfl _ (rowW (free2 xs ys t false)) 25 _ rfl (BlkAt.all (by first | (with_reducible assumption) | (refine BlkAt.below (by with_reducible assumption) ?_; exact (by repeat (first | assumption | exact Below.refl _ _ | exact below_beyond _ _ | refine Below.beyond ?_ (by (try simp [size_beyond]) <;> omega) _ | refine Below.drew ?_ | refine Go.Rw.below_drewN ?_ _ | refine Go.Rw.below_setRow ?_ (by (try simp [size_beyond]) <;> omega) _ | refine Below.alloc ?_ (by (try simp [size_beyond]) <;> omega) _ | refine Below.setCell ?_ (by (try simp [size_beyond]) <;> omega) _))))) Tryd.underlying25 rfl (by rw [HZ6.out]; exact sInfo) ?_))
    go_at_call 15
    refine (min_set (free2_len HX.out HY.out t false) _ (HT.out.below (by repeat (first | assumption | exact Below.refl _ _ | exact below_beyond _ _ | refine Below.beyond ?_ (by (try simp [size_beyond]) <;> omega) _ | refine Below.drew ?_ | refine Go.Rw.below_drewN ?_ _ | refine Go.Rw.below_setRow ?_ (by (try simp [size_beyond]) <;> omega) _ | refine Below.alloc ?_ (by (try simp [size_beyond]) <;> omega) _ | refine Below.setCell ?_ (by (try simp [size_beyond]) <;> omega) _)))).mono ?_
    rintro e w1 ⟨n, b2, y4, rfl, rfl, hmin⟩
    have HMN := Lib.hid hmin; clear hmin
    cases b2
    · have HE := Lib.hid (next_no HX.out HY.out HMX.out HMN.out)
      go_wp2_with (refine wpList_store_over rfl 25 (.tmp 4) (.tmp 34) rfl #[.int .u64 0, .int .u64 0, .int .u64 0, .int .u64 0, .int .u64 0, .int .u64 0, .int .u64 0, .int .u64 0, .int .u64 0, .int .u64 0, .int .u64 0, .int .u64 0, .int .u64 0, .int .u64 0, .int .u64 0, .int .u64 0] 25 _ _ rfl (by first | (with_reducible assumption) | (refine BlkAt.below (by with_reducible assumption) ?_; exact (by repeat (first | assumption | exact Below.refl _ _ | exact below_beyond _ _ | refine Below.beyond ?_ (by (try simp [size_beyond]) <;> omega) _ | refine Below.drew ?_ | refine Go.Rw.below_drewN ?_ _ | refine Go.Rw.below_setRow ?_ (by (try simp [size_beyond]) <;> omega) _ | refine Below.alloc ?_ (by (try simp [size_beyond]) <;> omega) _ | refine Below.setCell ?_ (by (try simp [size_beyond]) <;> omega) _)))) rfl (by kernel_rfl) rfl (by kernel_rfl) ?_; intro wz hk KZ hbz; have HBZ := Lib.hid hbz; clear hk hbz)
      refine bodyPost_ret (results_block2 rfl _ _ (w.heap.size + 1 + 1) 25 #[.int .u64 0, .int .u64 0, .int .u64 0, .int .u64 0, .int .u64 0, .int .u64 0, .int .u64 0, .int .u64 0, .int .u64 0, .int .u64 0, .int .u64 0, .int .u64 0, .int .u64 0, .int .u64 0, .int .u64 0, .int .u64 0] _ _ rfl rfl KZ.all Tryd.underlying25 rfl (by kernel_rfl)) rfl ?_
      refine ⟨?_, beyond_of (Below.trans (by repeat (first | assumption | exact Below.refl _ _ | exact below_beyond _ _ | refine Below.beyond ?_ (by (try simp [size_beyond]) <;> omega) _ | refine Below.drew ?_ | refine Go.Rw.below_drewN ?_ _ | refine Go.Rw.below_setRow ?_ (by (try simp [size_beyond]) <;> omega) _ | refine Below.alloc ?_ (by (try simp [size_beyond]) <;> omega) _ | refine Below.setCell ?_ (by (try simp [size_beyond]) <;> omega) _)) (HBZ.out.mono (by omega)))⟩
      rw [HE.out]; rfl
    · have hnx := next_yes HX.out HY.out HMX.out HMN.out
      obtain ⟨k2, rfl⟩ := Int.eq_ofNat_of_zero_le hnx.2.2.1
      have hk2 : k2 < 1024 := by have := hnx.2.2.2; omega
      have HNX := Lib.hid hnx; clear hnx
      have HZR := Lib.hid (show (rowW (withS (subR xs (belowS (k2 : Int))) k2)).size = 16 by rw [rowW_size, withS_len]; exact sub16_len HX.out (belowS_len _))
      go_wp2
      refine wp_region_tail 6 (by kernel_rfl) (by kernel_rfl) (by kernel_rfl) ?_
      simp only [List.take_succ_cons, List.take_zero, List.drop_succ_cons, List.drop_zero]
      refine wpQuiet_load_row (by kernel_rfl) 25 (.tmp 2) rfl w.heap.size (rowW xs) 25 _ rfl (by rintro _ ⟨x, rfl⟩; exact (BlkAt.below (BlkAt.below J1 (by repeat (first | assumption | exact Below.refl _ _ | exact below_beyond _ _ | refine Below.beyond ?_ (by (try simp [size_beyond]) <;> omega) _ | refine Below.drew ?_ | refine Go.Rw.below_drewN ?_ _ | refine Go.Rw.below_setRow ?_ (by (try simp [size_beyond]) <;> omega) _ | refine Below.alloc ?_ (by (try simp [size_beyond]) <;> omega) _ | refine Below.setCell ?_ (by (try simp [size_beyond]) <;> omega) _))) (below_beyond _ _)).all) Tryd.underlying25 rfl (by rw [HZ.out]; exact sInfo) ?_
      simp only [Act.put, List.setIfInBounds_toArray, List.set_cons_succ, List.set_cons_zero]
      repeat (go_big_quiet_step (first | (go_at_call 23; exact quiet_beyond (below_set _ (by omega) (by omega) _)) | (go_at_call 33; exact quiet_beyond (subset_calls HX.out (belowS_len _) _)) | (go_at_call 25; exact quiet_beyond (wset_calls (sub16_len HX.out (belowS_len _)) _ _))))
      refine wpQuiet_nil ?_
      rintro _ ⟨yq, rfl⟩
      go_wp2_with (refine wpList_store_over rfl 25 (.tmp 4) (.tmp 40) rfl (rowW (withS (subR xs (belowS (k2 : Int))) k2)) 25 _ _ rfl (by first | (with_reducible assumption) | (refine BlkAt.below (by with_reducible assumption) ?_; exact (by repeat (first | assumption | exact Below.refl _ _ | exact below_beyond _ _ | refine Below.beyond ?_ (by (try simp [size_beyond]) <;> omega) _ | refine Below.drew ?_ | refine Go.Rw.below_drewN ?_ _ | refine Go.Rw.below_setRow ?_ (by (try simp [size_beyond]) <;> omega) _ | refine Below.alloc ?_ (by (try simp [size_beyond]) <;> omega) _ | refine Below.setCell ?_ (by (try simp [size_beyond]) <;> omega) _)))) rfl (by rw [HZR.out]; exact sInfo) (by rw [HZR.out]; rfl) (rowW_one _) ?_; intro wz hk KZ hbz; have HBZ := Lib.hid hbz; clear hk hbz)
      refine bodyPost_ret (results_block2 rfl _ _ (w.heap.size + 1 + 1) 25 (rowW (withS (subR xs (belowS (k2 : Int))) k2)) _ _ rfl rfl KZ.all Tryd.underlying25 rfl (by rw [HZR.out]; exact sInfo)) rfl ?_
      refine ⟨?_, beyond_of (Below.trans (by repeat (first | assumption | exact Below.refl _ _ | exact below_beyond _ _ | refine Below.beyond ?_ (by (try simp [size_beyond]) <;> omega) _ | refine Below.drew ?_ | refine Go.Rw.below_drewN ?_ _ | refine Go.Rw.below_setRow ?_ (by (try simp [size_beyond]) <;> omega) _ | refine Below.alloc ?_ (by (try simp [size_beyond]) <;> omega) _ | refine Below.setCell ?_ (by (try simp [size_beyond]) <;> omega) _)) (HBZ.out.mono (by omega)))⟩
      rw [HNX.out.1, ← HNX.out.2.1]
      rfl
  · obtain ⟨k, rfl, hk⟩ : ∃ k : Nat, t = k ∧ k < 1024 := by
      rcases HMX.out with ⟨_, k, h1, h2, _⟩ | ⟨h, _⟩
      · exact ⟨k, h1, h2⟩
      · cases h
    have HF2 := Lib.hid (show free2 xs ys k true = subR (subR ys xs) (belowS ((k : Int) + 1)) from if_pos rfl)
    have HZ3 := Lib.hid (show (rowW (subR (subR ys xs) (belowS ((k : Int) + 1)))).size = 16 by rw [rowW_size]; exact sub16_len (sub16_len HY.out HX.out) (belowS_len _))
    have HZ6 := Lib.hid (show (rowW (free2 xs ys k true)).size = 16 by rw [rowW_size]; exact free2_len HX.out HY.out _ _)
    go_wp2
    refine wp_region_tail 5 (by kernel_rfl) (by kernel_rfl) (by kernel_rfl) ?_
    simp only [List.take_succ_cons, List.take_zero, List.drop_succ_cons, List.drop_zero]
    refine wpQuiet_load_row (by kernel_rfl) 25 (.tmp 6) rfl gF (rowW (subR ys xs)) 25 _ rfl (by rintro _ ⟨x, rfl⟩; exact (BlkAt.below (BlkAt.below KF (by repeat (first | assumption | exact Below.refl _ _ | exact below_beyond _ _ | refine Below.beyond ?_ (by (try simp [size_beyond]) <;> omega) _ | refine Below.drew ?_ | refine Go.Rw.below_drewN ?_ _ | refine Go.Rw.below_setRow ?_ (by (try simp [size_beyond]) <;> omega) _ | refine Below.alloc ?_ (by (try simp [size_beyond]) <;> omega) _ | refine Below.setCell ?_ (by (try simp [size_beyond]) <;> omega) _))) (below_beyond _ _)).all) Tryd.underlying25 rfl (by rw [HZF.out]; exact sInfo) ?_
    simp only [Act.put, List.setIfInBounds_toArray, List.set_cons_succ, List.set_cons_zero]
    repeat (go_big_quiet_step (first | (go_at_call 23; exact quiet_beyond (below_set _ (by omega) (by omega) _)) | (go_at_call 33; exact quiet_beyond (subset_calls (sub16_len HY.out HX.out) (belowS_len _) _))))
    refine wpQuiet_nil ?_
    rintro _ ⟨yq, rfl⟩
    go_wp2_with (first | (refine wpList_store_over rfl 25 (.tmp 6) (.tmp 26) rfl (rowW (subR (subR ys xs) (belowS ((k : Int) + 1)))) 25 _ _ rfl (by first | (with_reducible assumption) | (refine BlkAt.below (by with_reducible assumption) ?_; exact (by repeat (first | assumption | exact Below.refl _ _ | exact below_beyond _ _ | refine Below.beyond ?_ (by (try simp [size_beyond]) <;> omega) _ | refine Below.drew ?_ | refine Go.Rw.below_drewN ?_ _ | refine Go.Rw.below_setRow ?_ (by (try simp [size_beyond]) <;> omega) _ | refine Below.alloc ?_ (by (try simp [size_beyond]) <;> omega) _ | refine Below.setCell ?_ (by (try simp [size_beyond]) <;> omega) _)))) rfl (by rw [HZ3.out]; exact sInfo) (by rw [HZ3.out, HZF.out]) (rowW_one _) ?_; intro wq hkeep KG0 hbq; have HWQ : Below w.heap.size w wq := Below.trans (by repeat (first | assumption | exact Below.refl _ _ | exact below_beyond _ _ | refine Below.beyond ?_ (by (try simp [size_beyond]) <;> omega) _ | refine Below.drew ?_ | refine Go.Rw.below_drewN ?_ _ | refine Go.Rw.below_setRow ?_ (by (try simp [size_beyond]) <;> omega) _ | refine Below.alloc ?_ (by (try simp [size_beyond]) <;> omega) _ | refine Below.setCell ?_ (by (try simp [size_beyond]) <;> omega) _)) (hbq.mono (by omega)); have I1 := hkeep _ _ _ (by omega) (BlkAt.below J1 (by repeat (first | assumption | exact Below.refl _ _ | exact below_beyond _ _ | refine Below.beyond ?_ (by (try simp [size_beyond]) <;> omega) _ | refine Below.drew ?_ | refine Go.Rw.below_drewN ?_ _ | refine Go.Rw.below_setRow ?_ (by (try simp [size_beyond]) <;> omega) _ | refine Below.alloc ?_ (by (try simp [size_beyond]) <;> omega) _ | refine Below.setCell ?_ (by (try simp [size_beyond]) <;> omega) _))); have I3 := hkeep _ _ _ (by omega) (BlkAt.below J3 (by repeat (first | assumption | exact Below.refl _ _ | exact below_beyond _ _ | refine Below.beyond ?_ (by (try simp [size_beyond]) <;> omega) _ | refine Below.drew ?_ | refine Go.Rw.below_drewN ?_ _ | refine Go.Rw.below_setRow ?_ (by (try simp [size_beyond]) <;> omega) _ | refine Below.alloc ?_ (by (try simp [size_beyond]) <;> omega) _ | refine Below.setCell ?_ (by (try simp [size_beyond]) <;> omega) _))); have hwq := HWQ.size; have KG : BlkAt gF (rowW (free2 xs ys k true)) 25 wq := (by rw [HF2.out]; exact KG0); clear hkeep hbq KG0 KF J1 J2 J3) | (refine wpList_load_any (by kernel_rfl) 25 (.tmp 6) rfl _ (rowW (free2 xs ys k true)) 25 _ rfl (BlkAt.all (by first | (with_reducible assumption) | (refine BlkAt.below (by with_reducible assumption) ?_; exact (by repeat (first | assumption | exact Below.refl _ _ | exact below_beyond _ _ | refine Below.beyond ?_ (by (try simp [size_beyond]) <;> omega) _ | refine Below.drew ?_ | refine Go.Rw.below_drewN ?_ _ | refine Go.Rw.below_setRow ?_ (by (try simp [size_beyond]) <;> omega) _ | refine Below.alloc ?_ (by (try simp [size_beyond]) <;> omega) _ | refine Below.setCell ?_ (by (try simp [size_beyond]) <;> omega) _))))) Tryd.underlying25 rfl (by rw [HZ6.out]; exact sInfo) ?_))
    go_at_call 15
    refine (min_set (free2_len HX.out HY.out k true) _ (HT.out.below (by repeat (first | assumption | exact Below.refl _ _ | exact below_beyond _ _ | refine Below.beyond ?_ (by (try simp [size_beyond]) <;> omega) _ | refine Below.drew ?_ | refine Go.Rw.below_drewN ?_ _ | refine Go.Rw.below_setRow ?_ (by (try simp [size_beyond]) <;> omega) _ | refine Below.alloc ?_ (by (try simp [size_beyond]) <;> omega) _ | refine Below.setCell ?_ (by (try simp [size_beyond]) <;> omega) _)))).mono ?_
    rintro e w1 ⟨n, b2, y4, rfl, rfl, hmin⟩
    have HMN := Lib.hid hmin; clear hmin
    cases b2
    · have HE := Lib.hid (next_no HX.out HY.out HMX.out HMN.out)
      go_wp2_with (refine wpList_store_over rfl 25 (.tmp 4) (.tmp 34) rfl #[.int .u64 0, .int .u64 0, .int .u64 0, .int .u64 0, .int .u64 0, .int .u64 0, .int .u64 0, .int .u64 0, .int .u64 0, .int .u64 0, .int .u64 0, .int .u64 0, .int .u64 0, .int .u64 0, .int .u64 0, .int .u64 0] 25 _ _ rfl (by first | (with_reducible assumption) | (refine BlkAt.below (by with_reducible assumption) ?_; exact (by repeat (first | assumption | exact Below.refl _ _ | exact below_beyond _ _ | refine Below.beyond ?_ (by (try simp [size_beyond]) <;> omega) _ | refine Below.drew ?_ | refine Go.Rw.below_drewN ?_ _ | refine Go.Rw.below_setRow ?_ (by (try simp [size_beyond]) <;> omega) _ | refine Below.alloc ?_ (by (try simp [size_beyond]) <;> omega) _ | refine Below.setCell ?_ (by (try simp [size_beyond]) <;> omega) _)))) rfl (by kernel_rfl) rfl (by kernel_rfl) ?_; intro wz hk KZ hbz; have HBZ := Lib.hid hbz; clear hk hbz)
      refine bodyPost_ret (results_block2 rfl _ _ (w.heap.size + 1 + 1) 25 #[.int .u64 0, .int .u64 0, .int .u64 0, .int .u64 0, .int .u64 0, .int .u64 0, .int .u64 0, .int .u64 0, .int .u64 0, .int .u64 0, .int .u64 0, .int .u64 0, .int .u64 0, .int .u64 0, .int .u64 0, .int .u64 0] _ _ rfl rfl KZ.all Tryd.underlying25 rfl (by kernel_rfl)) rfl ?_
      refine ⟨?_, beyond_of (Below.trans (by repeat (first | assumption | exact Below.refl _ _ | exact below_beyond _ _ | refine Below.beyond ?_ (by (try simp [size_beyond]) <;> omega) _ | refine Below.drew ?_ | refine Go.Rw.below_drewN ?_ _ | refine Go.Rw.below_setRow ?_ (by (try simp [size_beyond]) <;> omega) _ | refine Below.alloc ?_ (by (try simp [size_beyond]) <;> omega) _ | refine Below.setCell ?_ (by (try simp [size_beyond]) <;> omega) _)) (HBZ.out.mono (by omega)))⟩
      rw [HE.out]; rfl
    · have hnx := next_yes HX.out HY.out HMX.out HMN.out
      obtain ⟨k2, rfl⟩ := Int.eq_ofNat_of_zero_le hnx.2.2.1
      have hk2 : k2 < 1024 := by have := hnx.2.2.2; omega
      have HNX := Lib.hid hnx; clear hnx
      have HZR := Lib.hid (show (rowW (withS (subR xs (belowS (k2 : Int))) k2)).size = 16 by rw [rowW_size, withS_len]; exact sub16_len HX.out (belowS_len _))
      go_wp2
      refine wp_region_tail 6 (by kernel_rfl) (by kernel_rfl) (by kernel_rfl) ?_
      simp only [List.take_succ_cons, List.take_zero, List.drop_succ_cons, List.drop_zero]
      refine wpQuiet_load_row (by kernel_rfl) 25 (.tmp 2) rfl w.heap.size (rowW xs) 25 _ rfl (by rintro _ ⟨x, rfl⟩; exact (BlkAt.below (BlkAt.below I1 (by repeat (first | assumption | exact Below.refl _ _ | exact below_beyond _ _ | refine Below.beyond ?_ (by (try simp [size_beyond]) <;> omega) _ | refine Below.drew ?_ | refine Go.Rw.below_drewN ?_ _ | refine Go.Rw.below_setRow ?_ (by (try simp [size_beyond]) <;> omega) _ | refine Below.alloc ?_ (by (try simp [size_beyond]) <;> omega) _ | refine Below.setCell ?_ (by (try simp [size_beyond]) <;> omega) _))) (below_beyond _ _)).all) Tryd.underlying25 rfl (by rw [HZ.out]; exact sInfo) ?_
      simp only [Act.put, List.setIfInBounds_toArray, List.set_cons_succ, List.set_cons_zero]
      repeat (go_big_quiet_step (first | (go_at_call 23; exact quiet_beyond (below_set _ (by omega) (by omega) _)) | (go_at_call 33; exact quiet_beyond (subset_calls HX.out (belowS_len _) _)) | (go_at_call 25; exact quiet_beyond (wset_calls (sub16_len HX.out (belowS_len _)) _ _))))
      refine wpQuiet_nil ?_
      rintro _ ⟨yq, rfl⟩
      go_wp2_with (refine wpList_store_over rfl 25 (.tmp 4) (.tmp 40) rfl (rowW (withS (subR xs (belowS (k2 : Int))) k2)) 25 _ _ rfl (by first | (with_reducible assumption) | (refine BlkAt.below (by with_reducible assumption) ?_; exact (by repeat (first | assumption | exact Below.refl _ _ | exact below_beyond _ _ | refine Below.beyond ?_ (by (try simp [size_beyond]) <;> omega) _ | refine Below.drew ?_ | refine Go.Rw.below_drewN ?_ _ | refine Go.Rw.below_setRow ?_ (by (try simp [size_beyond]) <;> omega) _ | refine Below.alloc ?_ (by (try simp [size_beyond]) <;> omega) _ | refine Below.setCell ?_ (by (try simp [size_beyond]) <;> omega) _)))) rfl (by rw [HZR.out]; exact sInfo) (by rw [HZR.out]; rfl) (rowW_one _) ?_; intro wz hk KZ hbz; have HBZ := Lib.hid hbz; clear hk hbz)
      refine bodyPost_ret (results_block2 rfl _ _ (w.heap.size + 1 + 1) 25 (rowW (withS (subR xs (belowS (k2 : Int))) k2)) _ _ rfl rfl KZ.all Tryd.underlying25 rfl (by rw [HZR.out]; exact sInfo)) rfl ?_
      refine ⟨?_, beyond_of (Below.trans (by repeat (first | assumption | exact Below.refl _ _ | exact below_beyond _ _ | refine Below.beyond ?_ (by (try simp [size_beyond]) <;> omega) _ | refine Below.drew ?_ | refine Go.Rw.below_drewN ?_ _ | refine Go.Rw.below_setRow ?_ (by (try simp [size_beyond]) <;> omega) _ | refine Below.alloc ?_ (by (try simp [size_beyond]) <;> omega) _ | refine Below.setCell ?_ (by (try simp [size_beyond]) <;> omega) _)) (HBZ.out.mono (by omega)))⟩
      rw [HNX.out.1, ← HNX.out.2.1]
      rfl
theorem rnext_at {q q2 : Option Addr} {m c m2 c2 : Nat} {xs ys : List W} {w : World} (h : IsAt q m c (elems xs) w) (h2 : IsAt q2 m2 c2 (elems ys) w) :
    Calls Tryd.prog 45 #[.slice q m c, .slice q2 m2 c2] w (RetN w (nextL (elems xs) (elems ys)).1 (nextL (elems xs) (elems ys)).2) :=
  rnext_calls h h2 (by have h1 := h.all.1; have h3 := ofP_len (bitAt xs); have h4 : (elems xs).length ≤ 1024 := h3; omega)
theorem from_at {q : Option Addr} {m c : Nat} {l : List Int} {w : World} (h : IsAt q m c l w) : Calls Tryd.prog 46 #[.slice q m c] w fun e w' => e = .returned (.agg (rowW (rowOf l))) ∧ ∃ y, w' = beyond w y :=
  from_set h.all.1 (by have := h.all.2.1; omega) h.all.2.2.2.2
/-- two rows compared, in a region that draws its order -/
theorem wpQuiet_eqRow {P : Program} {ops : Array Oper} {C : World → Prop} {Q : Act → Prop} {a : Act} {o : Oper} {rest : List Oper} (hw : Region.wanted o (yielded ops a.tmps) = true) {t r e : TypeId} {n : Nat} (x y : Operand) (ho : o.op = .binOp .eql t x y r)
    (hu : P.underlying t = some (.array n e)) (he : P.underlying e = some (.int .u64)) (hi : (P.info? e).map (·.size) = some 1) (hg : P.eqGuardType P.depth t = false)
    {xs ys : List W} (hx : xs.length = n) (hy : ys.length = n) (ex : a.eval x = .agg (rowW xs)) (ey : a.eval y = .agg (rowW ys))
    (hk : wpQuiet P ops C Q rest (a.put o.dst (.bool (decide (xs = ys))))) : wpQuiet P ops C Q (o :: rest) a :=
  BigFrame.wpQuiet_want hw fun K hK => ⟨_, fun w hC => by
    unfold Oper.quietAt execOp
    simp only [ho, ex, ey]
    rw [Sem.run_bind, eq_run hu he hi hg hx hy x y w]
    exact ⟨rfl, rfl⟩, hK _ hk⟩
end Go.Proofs.YtjneboajbmabbaaDoor.ref1

namespace Go.Proofs.YtjneboajbmabbaaDoor.bitsetNextSubset
open Go.RowKit Go.Own Go.Rw Go.SetL Go.Bits Go.Proofs.YtjneboajbmabbaaDoor.ref1
set_option maxHeartbeats 1000000
set_option maxRecDepth 100000
attribute [local irreducible] beyond grow over

theorem sumsS : Can.RecOk Tryd.prog [0, 1, 2] (Can.knownSm 24 tab [0, 1, 2]) := Can.knownSm_ok pc (Can.noSm_ok) tabAt tabPlain knownTrue
/-- the examples hold in every world that comes behind one where the tables are laid -/
theorem known_calls {W : World} (hL : laidMetH Tryd.prog Rows.bitsetNextSubsetRow.laid W) (X : World) (hb : Below W.heap.size W X) : Calls Tryd.prog 24 #[] X fun e w' => e = .returned (.bool true) ∧ ∃ y, w' = beyond X y := by
  have hk : Can.Known (H0 (Can.tyAt W)) (Can.onG [0, 1, 2]) X := by
    refine Can.known_onG fun g hg => ?_
    have hg' := hg
    simp only [List.mem_cons, List.not_mem_nil, or_false] at hg
    rcases hg with rfl | rfl | rfl
    · have h0 : W.heap[0]? = some (.cells (tab 0) (Can.tyAt W 0) (0, 0)) := Can.laid_tab hL (by kernel_rfl) (List.mem_of_getElem? (i := 1) rfl) (by kernel_rfl) (by kernel_rfl) (by decide +kernel)
      exact ⟨tab 0, Can.tyAt W 0, rfl, (hb.block 0 (Array.getElem?_eq_some_iff.1 h0).1).trans h0, by kernel_rfl⟩
    · have h0 : W.heap[1]? = some (.cells (tab 1) (Can.tyAt W 1) (0, 0)) := Can.laid_tab hL (by kernel_rfl) (List.mem_of_getElem? (i := 2) rfl) (by kernel_rfl) (by kernel_rfl) (by decide +kernel)
      exact ⟨tab 1, Can.tyAt W 1, rfl, (hb.block 1 (Array.getElem?_eq_some_iff.1 h0).1).trans h0, by kernel_rfl⟩
    · have h0 : W.heap[2]? = some (.cells (tab 2) (Can.tyAt W 2) (0, 0)) := Can.laid_tab hL (by kernel_rfl) (List.mem_of_getElem? (i := 0) rfl) (by kernel_rfl) (by kernel_rfl) (by decide +kernel)
      exact ⟨tab 2, Can.tyAt W 2, rfl, (hb.block 2 (Array.getElem?_eq_some_iff.1 h0).1).trans h0, by kernel_rfl⟩
  exact Can.true_callsS pc sumsS (n := 5) (by kernel_rfl) hk (Can.gl_onG _) (Can.plain_args (by kernel_rfl))
theorem tzW {W : World} (hL : laidMetH Tryd.prog Rows.bitsetNextSubsetRow.laid W) : TzW W :=
  tzW_of (T := Can.tyAt W 0) (Can.laid_tab hL (by kernel_rfl) (List.mem_of_getElem? (i := 1) rfl) (by kernel_rfl) (by kernel_rfl) (by decide +kernel))
theorem main {W : World} (hL : laidMetH Tryd.prog Rows.bitsetNextSubsetRow.laid W) {xs ys : List Bits.W} (hx : xs.length = 16) (hy : ys.length = 16) :
    Calls Tryd.prog 8 #[.agg (rowW xs), .agg (rowW ys)] W fun e w' => e = .returned (.bool true) ∧ ∃ x, w' = beyond W x := by
  have HX := Lib.hid hx; clear hx
  have HY := Lib.hid hy; clear hy
  have KK := Lib.hid (fun X hb => known_calls hL X hb)
  have TZ := Lib.hid (tzW hL); clear hL
  have HZ := Lib.hid (show (rowW xs).size = 16 by rw [rowW_size, HX.out])
  have HZ2 := Lib.hid (show (rowW ys).size = 16 by rw [rowW_size, HY.out])
  have HNS := Lib.hid (fun w hT => nset_calls HX.out HY.out w hT)
  have HRN := Lib.hid (fun (q q2 : Option Addr) (m c m2 c2 : Nat) (w : World) (h : IsAt q m c (elems xs) w) (h2 : IsAt q2 m2 c2 (elems ys) w) => rnext_at h h2)
  have HLN := Lib.hid (rowOf_len (nextL (elems xs) (elems ys)).1)
  generalize (nextL (elems xs) (elems ys)).1 = nl at HNS HRN HLN
  generalize (nextL (elems xs) (elems ys)).2 = nb at HNS HRN
  have HZ3 := Lib.hid (show (rowW (rowOf nl)).size = 16 by rw [rowW_size, HLN.out])
  have K1 : BlkAt W.heap.size (rowW xs) 25 ((W.alloc (.cells (rowW xs) 25)).alloc (.cells (rowW ys) 25)) := ⟨by simp [go_sem, inW]⟩
  have K2 : BlkAt (W.heap.size + 1) (rowW ys) 25 ((W.alloc (.cells (rowW xs) 25)).alloc (.cells (rowW ys) 25)) := ⟨by simp [go_sem, inW]⟩
  cases nb
  all_goals
    go_enter Tryd.func8, Tryd.ntmps8
    go_wp2_with (first | (refine wpList_load_any (by kernel_rfl) 25 (.tmp 2) rfl _ (rowW xs) 25 _ rfl (BlkAt.all (by first | (with_reducible assumption) | (refine BlkAt.below (by with_reducible assumption) ?_; exact (by repeat (first | assumption | exact Below.refl _ _ | exact below_beyond _ _ | refine Below.beyond ?_ (by (try simp [size_beyond]) <;> omega) _ | refine Below.drew ?_ | refine Go.Rw.below_drewN ?_ _ | refine Go.Rw.below_setRow ?_ (by (try simp [size_beyond]) <;> omega) _ | refine Below.alloc ?_ (by (try simp [size_beyond]) <;> omega) _ | refine Below.setCell ?_ (by (try simp [size_beyond]) <;> omega) _))))) Tryd.underlying25 rfl (by rw [HZ.out]; exact sInfo) ?_) | (refine wpList_load_any (by kernel_rfl) 25 (.tmp 3) rfl _ (rowW ys) 25 _ rfl (BlkAt.all (by first | (with_reducible assumption) | (refine BlkAt.below (by with_reducible assumption) ?_; exact (by repeat (first | assumption | exact Below.refl _ _ | exact below_beyond _ _ | refine Below.beyond ?_ (by (try simp [size_beyond]) <;> omega) _ | refine Below.drew ?_ | refine Go.Rw.below_drewN ?_ _ | refine Go.Rw.below_setRow ?_ (by (try simp [size_beyond]) <;> omega) _ | refine Below.alloc ?_ (by (try simp [size_beyond]) <;> omega) _ | refine Below.setCell ?_ (by (try simp [size_beyond]) <;> omega) _))))) Tryd.underlying25 rfl (by rw [HZ2.out]; exact sInfo) ?_))
    go_at_call 44
    refine (HNS.out _ (TZ.out.below (by repeat (first | assumption | exact Below.refl _ _ | exact below_beyond _ _ | refine Below.beyond ?_ (by (try simp [size_beyond]) <;> omega) _ | refine Below.drew ?_ | refine Go.Rw.below_drewN ?_ _ | refine Go.Rw.below_setRow ?_ (by (try simp [size_beyond]) <;> omega) _ | refine Below.alloc ?_ (by (try simp [size_beyond]) <;> omega) _ | refine Below.setCell ?_ (by (try simp [size_beyond]) <;> omega) _)))).mono ?_
    rintro e w1 ⟨rfl, y1, rfl⟩
    go_wp2_with (refine wpList_store_fresh rfl 25 (.tmp 5) (.tmp 13) rfl (rowW (rowOf nl)) 25 _ _ rfl rfl rfl (by rw [HZ3.out]; exact sInfo) (by rw [HZ3.out] <;> rfl) (rowW_one _) ?_; intro wr hbel KF; have HWB : Below W.heap.size W wr := Below.trans (by repeat (first | assumption | exact Below.refl _ _ | exact below_beyond _ _ | refine Below.beyond ?_ (by (try simp [size_beyond]) <;> omega) _ | refine Below.drew ?_ | refine Go.Rw.below_drewN ?_ _ | refine Go.Rw.below_setRow ?_ (by (try simp [size_beyond]) <;> omega) _ | refine Below.alloc ?_ (by (try simp [size_beyond]) <;> omega) _ | refine Below.setCell ?_ (by (try simp [size_beyond]) <;> omega) _)) (Below.mono hbel (by simp [size_beyond] <;> omega)); have J1 := (BlkAt.below (K1.below (below_beyond _ y1)) hbel); have J2 := (BlkAt.below (K2.below (below_beyond _ y1)) hbel); have hws := HWB.size; clear hbel K1 K2)
    have hgf : W.heap.size + 2 ≤ (beyond ((W.alloc (.cells (rowW xs) 25)).alloc (.cells (rowW ys) 25)) y1).heap.size := by rw [size_beyond]; simp
    generalize (beyond ((W.alloc (.cells (rowW xs) 25)).alloc (.cells (rowW ys) 25)) y1).heap.size = gF at hgf KF ⊢
    refine wp_region_plan (fun w' => ∃ x, w' = beyond wr x) [([0, 2], 1), ([], 3), ([], 4)] [5, 6, 7, 8, 9] (by kernel_rfl) (by kernel_rfl) (by intro _ _ d _ _ h; cases d <;> exact h) (beyond_of (by repeat (first | assumption | exact Below.refl _ _ | exact below_beyond _ _ | refine Below.beyond ?_ (by (try simp [size_beyond]) <;> omega) _ | refine Below.drew ?_ | refine Go.Rw.below_drewN ?_ _ | refine Go.Rw.below_setRow ?_ (by (try simp [size_beyond]) <;> omega) _ | refine Below.alloc ?_ (by (try simp [size_beyond]) <;> omega) _ | refine Below.setCell ?_ (by (try simp [size_beyond]) <;> omega) _))) ?_
    simp only [wpSegs, pick, List.filterMap, List.size_toArray, List.getElem?_toArray, List.getElem?_cons_zero, List.getElem?_cons_succ]
    refine wpQuiet_load_row (by kernel_rfl) 25 (.tmp 2) rfl W.heap.size (rowW xs) 25 _ rfl (by rintro _ ⟨x, rfl⟩; exact (BlkAt.below J1 (below_beyond _ _)).all) Tryd.underlying25 rfl (by rw [HZ.out]; exact sInfo) ?_
    refine wpQuiet_load_row (by kernel_rfl) 25 (.tmp 3) rfl (W.heap.size + 1) (rowW ys) 25 _ rfl (by rintro _ ⟨x, rfl⟩; exact (BlkAt.below J2 (below_beyond _ _)).all) Tryd.underlying25 rfl (by rw [HZ2.out]; exact sInfo) ?_
    refine wpQuiet_nil ?_
    go_wp2_with (go_at_call 18; refine (to_at HX.out _).mono ?_; rintro e w1 ⟨q1, m1, c1, y2, rfl, rfl, H1⟩)
    refine ⟨beyond_of (by repeat (first | assumption | exact Below.refl _ _ | exact below_beyond _ _ | refine Below.beyond ?_ (by (try simp [size_beyond]) <;> omega) _ | refine Below.drew ?_ | refine Go.Rw.below_drewN ?_ _ | refine Go.Rw.below_setRow ?_ (by (try simp [size_beyond]) <;> omega) _ | refine Below.alloc ?_ (by (try simp [size_beyond]) <;> omega) _ | refine Below.setCell ?_ (by (try simp [size_beyond]) <;> omega) _)), wpQuiet_nil ?_⟩
    go_wp2_with (go_at_call 18; refine (to_at HY.out _).mono ?_; rintro e w1 ⟨q2, m2, c2, y3, rfl, rfl, H2⟩)
    refine ⟨beyond_of (by repeat (first | assumption | exact Below.refl _ _ | exact below_beyond _ _ | refine Below.beyond ?_ (by (try simp [size_beyond]) <;> omega) _ | refine Below.drew ?_ | refine Go.Rw.below_drewN ?_ _ | refine Go.Rw.below_setRow ?_ (by (try simp [size_beyond]) <;> omega) _ | refine Below.alloc ?_ (by (try simp [size_beyond]) <;> omega) _ | refine Below.setCell ?_ (by (try simp [size_beyond]) <;> omega) _)), wpQuiet_nil ?_⟩
    go_wp2_with (go_at_call 45; refine (HRN.out _ _ _ _ _ _ _ (by first | (with_reducible assumption) | (refine IsAt.below (by with_reducible assumption) ?_; exact (by repeat (first | assumption | exact Below.refl _ _ | exact below_beyond _ _ | refine Below.beyond ?_ (by (try simp [size_beyond]) <;> omega) _ | refine Below.drew ?_ | refine Go.Rw.below_drewN ?_ _ | refine Go.Rw.below_setRow ?_ (by (try simp [size_beyond]) <;> omega) _ | refine Below.alloc ?_ (by (try simp [size_beyond]) <;> omega) _ | refine Below.setCell ?_ (by (try simp [size_beyond]) <;> omega) _)))) (by first | (with_reducible assumption) | (refine IsAt.below (by with_reducible assumption) ?_; exact (by repeat (first | assumption | exact Below.refl _ _ | exact below_beyond _ _ | refine Below.beyond ?_ (by (try simp [size_beyond]) <;> omega) _ | refine Below.drew ?_ | refine Go.Rw.below_drewN ?_ _ | refine Go.Rw.below_setRow ?_ (by (try simp [size_beyond]) <;> omega) _ | refine Below.alloc ?_ (by (try simp [size_beyond]) <;> omega) _ | refine Below.setCell ?_ (by (try simp [size_beyond]) <;> omega) _))))).mono ?_; rintro e w1 ⟨q3, m3, c3, y4, rfl, rfl, H3⟩)
    refine ⟨beyond_of (by repeat (first | assumption | exact Below.refl _ _ | exact below_beyond _ _ | refine Below.beyond ?_ (by (try simp [size_beyond]) <;> omega) _ | refine Below.drew ?_ | refine Go.Rw.below_drewN ?_ _ | refine Go.Rw.below_setRow ?_ (by (try simp [size_beyond]) <;> omega) _ | refine Below.alloc ?_ (by (try simp [size_beyond]) <;> omega) _ | refine Below.setCell ?_ (by (try simp [size_beyond]) <;> omega) _)), ?_⟩
    repeat (go_big_quiet_step (fail))
    refine wpQuiet_nil ?_
    go_wp2
    refine wp_region_plan (fun w' => ∃ x, w' = beyond wr x) [([], 0), ([1, 2, 3, 4, 5, 6, 7, 8], 9)] [10, 11, 12] (by kernel_rfl) (by kernel_rfl) (by intro _ _ d _ _ h; cases d <;> exact h) (beyond_of (by repeat (first | assumption | exact Below.refl _ _ | exact below_beyond _ _ | refine Below.beyond ?_ (by (try simp [size_beyond]) <;> omega) _ | refine Below.drew ?_ | refine Go.Rw.below_drewN ?_ _ | refine Go.Rw.below_setRow ?_ (by (try simp [size_beyond]) <;> omega) _ | refine Below.alloc ?_ (by (try simp [size_beyond]) <;> omega) _ | refine Below.setCell ?_ (by (try simp [size_beyond]) <;> omega) _))) ?_
    simp only [wpSegs, pick, List.filterMap, List.size_toArray, List.getElem?_toArray, List.getElem?_cons_zero, List.getElem?_cons_succ]
    refine wpQuiet_nil ?_
    go_wp2_with (go_at_call 24; refine (KK.out _ (by repeat (first | assumption | exact Below.refl _ _ | exact below_beyond _ _ | refine Below.beyond ?_ (by (try simp [size_beyond]) <;> omega) _ | refine Below.drew ?_ | refine Go.Rw.below_drewN ?_ _ | refine Go.Rw.below_setRow ?_ (by (try simp [size_beyond]) <;> omega) _ | refine Below.alloc ?_ (by (try simp [size_beyond]) <;> omega) _ | refine Below.setCell ?_ (by (try simp [size_beyond]) <;> omega) _))).mono ?_; rintro e w1 ⟨rfl, y5, rfl⟩)
    refine ⟨beyond_of (by repeat (first | assumption | exact Below.refl _ _ | exact below_beyond _ _ | refine Below.beyond ?_ (by (try simp [size_beyond]) <;> omega) _ | refine Below.drew ?_ | refine Go.Rw.below_drewN ?_ _ | refine Go.Rw.below_setRow ?_ (by (try simp [size_beyond]) <;> omega) _ | refine Below.alloc ?_ (by (try simp [size_beyond]) <;> omega) _ | refine Below.setCell ?_ (by (try simp [size_beyond]) <;> omega) _)), ?_⟩
    iterate 6 (go_big_quiet_step (fail))
    refine wpQuiet_load_row (by kernel_rfl) 25 (.tmp 5) rfl gF (rowW (rowOf nl)) 25 _ rfl (by rintro _ ⟨x, rfl⟩; exact (BlkAt.below KF (below_beyond _ _)).all) Tryd.underlying25 rfl (by rw [HZ3.out]; exact sInfo) ?_
    simp only [Act.put, List.setIfInBounds_toArray, List.set_cons_succ, List.set_cons_zero]
    go_big_quiet_step (fail)
    refine wpQuiet_nil ?_
    go_wp2_with (go_at_call 46; refine (from_at (by first | (with_reducible assumption) | (refine IsAt.below (by with_reducible assumption) ?_; exact (by repeat (first | assumption | exact Below.refl _ _ | exact below_beyond _ _ | refine Below.beyond ?_ (by (try simp [size_beyond]) <;> omega) _ | refine Below.drew ?_ | refine Go.Rw.below_drewN ?_ _ | refine Go.Rw.below_setRow ?_ (by (try simp [size_beyond]) <;> omega) _ | refine Below.alloc ?_ (by (try simp [size_beyond]) <;> omega) _ | refine Below.setCell ?_ (by (try simp [size_beyond]) <;> omega) _))))).mono ?_; rintro e w1 ⟨rfl, y6, rfl⟩)
    refine ⟨beyond_of (by repeat (first | assumption | exact Below.refl _ _ | exact below_beyond _ _ | refine Below.beyond ?_ (by (try simp [size_beyond]) <;> omega) _ | refine Below.drew ?_ | refine Go.Rw.below_drewN ?_ _ | refine Go.Rw.below_setRow ?_ (by (try simp [size_beyond]) <;> omega) _ | refine Below.alloc ?_ (by (try simp [size_beyond]) <;> omega) _ | refine Below.setCell ?_ (by (try simp [size_beyond]) <;> omega) _)), ?_⟩
    refine wpQuiet_eqRow (by kernel_rfl) (.tmp 30) (.tmp 32) rfl sU wU wI sG HLN.out HLN.out rfl rfl ?_
    simp only [Act.put, List.setIfInBounds_toArray, List.set_cons_succ, List.set_cons_zero]
    try rw [decide_eq_true rfl]
    repeat (go_big_quiet_step (fail))
    refine wpQuiet_nil ?_
    go_wp2
    go_ret
    exact ⟨rfl, beyond_of (by repeat (first | assumption | exact Below.refl _ _ | exact below_beyond _ _ | refine Below.beyond ?_ (by (try simp [size_beyond]) <;> omega) _ | refine Below.drew ?_ | refine Go.Rw.below_drewN ?_ _ | refine Go.Rw.below_setRow ?_ (by (try simp [size_beyond]) <;> omega) _ | refine Below.alloc ?_ (by (try simp [size_beyond]) <;> omega) _ | refine Below.setCell ?_ (by (try simp [size_beyond]) <;> omega) _))⟩
theorem walk {W : World} (hL : laidMetH Tryd.prog Rows.bitsetNextSubsetRow.laid W) (x0_0 x0_1 x0_2 x0_3 x0_4 x0_5 x0_6 x0_7 x0_8 x0_9 x0_10 x0_11 x0_12 x0_13 x0_14 x0_15 x1_0 x1_1 x1_2 x1_3 x1_4 x1_5 x1_6 x1_7 x1_8 x1_9 x1_10 x1_11 x1_12 x1_13 x1_14 x1_15 : Int) (w0_0 : IntKind.u64.has x0_0) (w0_1 : IntKind.u64.has x0_1) (w0_2 : IntKind.u64.has x0_2) (w0_3 : IntKind.u64.has x0_3) (w0_4 : IntKind.u64.has x0_4) (w0_5 : IntKind.u64.has x0_5) (w0_6 : IntKind.u64.has x0_6) (w0_7 : IntKind.u64.has x0_7) (w0_8 : IntKind.u64.has x0_8) (w0_9 : IntKind.u64.has x0_9) (w0_10 : IntKind.u64.has x0_10) (w0_11 : IntKind.u64.has x0_11) (w0_12 : IntKind.u64.has x0_12) (w0_13 : IntKind.u64.has x0_13) (w0_14 : IntKind.u64.has x0_14) (w0_15 : IntKind.u64.has x0_15) (w1_0 : IntKind.u64.has x1_0) (w1_1 : IntKind.u64.has x1_1) (w1_2 : IntKind.u64.has x1_2) (w1_3 : IntKind.u64.has x1_3) (w1_4 : IntKind.u64.has x1_4) (w1_5 : IntKind.u64.has x1_5) (w1_6 : IntKind.u64.has x1_6) (w1_7 : IntKind.u64.has x1_7) (w1_8 : IntKind.u64.has x1_8) (w1_9 : IntKind.u64.has x1_9) (w1_10 : IntKind.u64.has x1_10) (w1_11 : IntKind.u64.has x1_11) (w1_12 : IntKind.u64.has x1_12) (w1_13 : IntKind.u64.has x1_13) (w1_14 : IntKind.u64.has x1_14) (w1_15 : IntKind.u64.has x1_15) :
    Calls Tryd.prog 8 #[.agg #[.int .u64 x0_0, .int .u64 x0_1, .int .u64 x0_2, .int .u64 x0_3, .int .u64 x0_4, .int .u64 x0_5, .int .u64 x0_6, .int .u64 x0_7, .int .u64 x0_8, .int .u64 x0_9, .int .u64 x0_10, .int .u64 x0_11, .int .u64 x0_12, .int .u64 x0_13, .int .u64 x0_14, .int .u64 x0_15], .agg #[.int .u64 x1_0, .int .u64 x1_1, .int .u64 x1_2, .int .u64 x1_3, .int .u64 x1_4, .int .u64 x1_5, .int .u64 x1_6, .int .u64 x1_7, .int .u64 x1_8, .int .u64 x1_9, .int .u64 x1_10, .int .u64 x1_11, .int .u64 x1_12, .int .u64 x1_13, .int .u64 x1_14, .int .u64 x1_15]] W fun e w' => e = .returned (.bool true) ∧ ∃ x, w' = beyond W x := by
  obtain ⟨A0, rfl⟩ := toI_of w0_0
  obtain ⟨A1, rfl⟩ := toI_of w0_1
  obtain ⟨A2, rfl⟩ := toI_of w0_2
  obtain ⟨A3, rfl⟩ := toI_of w0_3
  obtain ⟨A4, rfl⟩ := toI_of w0_4
  obtain ⟨A5, rfl⟩ := toI_of w0_5
  obtain ⟨A6, rfl⟩ := toI_of w0_6
  obtain ⟨A7, rfl⟩ := toI_of w0_7
  obtain ⟨A8, rfl⟩ := toI_of w0_8
  obtain ⟨A9, rfl⟩ := toI_of w0_9
  obtain ⟨A10, rfl⟩ := toI_of w0_10
  obtain ⟨A11, rfl⟩ := toI_of w0_11
  obtain ⟨A12, rfl⟩ := toI_of w0_12
  obtain ⟨A13, rfl⟩ := toI_of w0_13
  obtain ⟨A14, rfl⟩ := toI_of w0_14
  obtain ⟨A15, rfl⟩ := toI_of w0_15
  obtain ⟨B0, rfl⟩ := toI_of w1_0
  obtain ⟨B1, rfl⟩ := toI_of w1_1
  obtain ⟨B2, rfl⟩ := toI_of w1_2
  obtain ⟨B3, rfl⟩ := toI_of w1_3
  obtain ⟨B4, rfl⟩ := toI_of w1_4
  obtain ⟨B5, rfl⟩ := toI_of w1_5
  obtain ⟨B6, rfl⟩ := toI_of w1_6
  obtain ⟨B7, rfl⟩ := toI_of w1_7
  obtain ⟨B8, rfl⟩ := toI_of w1_8
  obtain ⟨B9, rfl⟩ := toI_of w1_9
  obtain ⟨B10, rfl⟩ := toI_of w1_10
  obtain ⟨B11, rfl⟩ := toI_of w1_11
  obtain ⟨B12, rfl⟩ := toI_of w1_12
  obtain ⟨B13, rfl⟩ := toI_of w1_13
  obtain ⟨B14, rfl⟩ := toI_of w1_14
  obtain ⟨B15, rfl⟩ := toI_of w1_15
  exact main hL (xs := [A0, A1, A2, A3, A4, A5, A6, A7, A8, A9, A10, A11, A12, A13, A14, A15]) (ys := [B0, B1, B2, B3, B4, B5, B6, B7, B8, B9, B10, B11, B12, B13, B14, B15]) rfl rfl
end Go.Proofs.YtjneboajbmabbaaDoor.bitsetNextSubset

namespace Go.Proofs.YtjneboajbmabbaaDoor.bitsetNextSubset
open Go.ChangeShapes Go.WideShapes Go.ChangeAt Go.RowKit Go.Joins Go.Own

set_option maxRecDepth 100000 in
theorem contract (H : Type) (enc : TypeId × Value → H) (W : World) (base : Nat) (args : Array Value) (ds gs : List (DataW H)) (before : List MemPlace)
    (hval : ∀ (j : Nat) t v, Tryd.f8.params[j]? = some t → args[j]? = some v → Value.okWide Tryd.prog W .any base t v)
    (hW : DataW.Whole enc Tryd.prog Tryd.f8.params.toList Rows.bitsetNextSubsetSpec.vars false W args.toList ds gs before) (hL : laidMetH Tryd.prog Rows.bitsetNextSubsetRow.laid W) :
    Calls Tryd.prog 8 args W fun e W' => ∃ v, e = .returned v ∧ Rows.bitsetNextSubsetSpec.post enc Tryd.prog Tryd.f8 false true false false W args v W' := by
  have hW' := hW
  obtain ⟨ha, hn⟩ := Can.whole_args (ks := [.row [.int .u64, .int .u64, .int .u64, .int .u64, .int .u64, .int .u64, .int .u64, .int .u64, .int .u64, .int .u64, .int .u64, .int .u64, .int .u64, .int .u64, .int .u64, .int .u64], .row [.int .u64, .int .u64, .int .u64, .int .u64, .int .u64, .int .u64, .int .u64, .int .u64, .int .u64, .int .u64, .int .u64, .int .u64, .int .u64, .int .u64, .int .u64, .int .u64]]) (by kernel_rfl) hval hW
  have hn : ds.length = 2 := hn.trans (by kernel_rfl)
  generalize ea : args.toList = al at ha
  obtain ⟨v0, al0, rfl, k0, ha0⟩ := Can.hasArgs_cons ha
  obtain ⟨r0_, rfl, k0_⟩ := k0
  obtain ⟨_, r0_0, rfl, ⟨x0_0, rfl, w0_0⟩, k0_0⟩ := Can.hasAll_cons k0_
  obtain ⟨_, r0_1, rfl, ⟨x0_1, rfl, w0_1⟩, k0_1⟩ := Can.hasAll_cons k0_0
  obtain ⟨_, r0_2, rfl, ⟨x0_2, rfl, w0_2⟩, k0_2⟩ := Can.hasAll_cons k0_1
  obtain ⟨_, r0_3, rfl, ⟨x0_3, rfl, w0_3⟩, k0_3⟩ := Can.hasAll_cons k0_2
  obtain ⟨_, r0_4, rfl, ⟨x0_4, rfl, w0_4⟩, k0_4⟩ := Can.hasAll_cons k0_3
  obtain ⟨_, r0_5, rfl, ⟨x0_5, rfl, w0_5⟩, k0_5⟩ := Can.hasAll_cons k0_4
  obtain ⟨_, r0_6, rfl, ⟨x0_6, rfl, w0_6⟩, k0_6⟩ := Can.hasAll_cons k0_5
  obtain ⟨_, r0_7, rfl, ⟨x0_7, rfl, w0_7⟩, k0_7⟩ := Can.hasAll_cons k0_6
  obtain ⟨_, r0_8, rfl, ⟨x0_8, rfl, w0_8⟩, k0_8⟩ := Can.hasAll_cons k0_7
  obtain ⟨_, r0_9, rfl, ⟨x0_9, rfl, w0_9⟩, k0_9⟩ := Can.hasAll_cons k0_8
  obtain ⟨_, r0_10, rfl, ⟨x0_10, rfl, w0_10⟩, k0_10⟩ := Can.hasAll_cons k0_9
  obtain ⟨_, r0_11, rfl, ⟨x0_11, rfl, w0_11⟩, k0_11⟩ := Can.hasAll_cons k0_10
  obtain ⟨_, r0_12, rfl, ⟨x0_12, rfl, w0_12⟩, k0_12⟩ := Can.hasAll_cons k0_11
  obtain ⟨_, r0_13, rfl, ⟨x0_13, rfl, w0_13⟩, k0_13⟩ := Can.hasAll_cons k0_12
  obtain ⟨_, r0_14, rfl, ⟨x0_14, rfl, w0_14⟩, k0_14⟩ := Can.hasAll_cons k0_13
  obtain ⟨_, r0_15, rfl, ⟨x0_15, rfl, w0_15⟩, k0_15⟩ := Can.hasAll_cons k0_14
  obtain rfl := Can.hasAll_nil k0_15
  obtain ⟨v1, al1, rfl, k1, ha1⟩ := Can.hasArgs_cons ha0
  obtain ⟨r1_, rfl, k1_⟩ := k1
  obtain ⟨_, r1_0, rfl, ⟨x1_0, rfl, w1_0⟩, k1_0⟩ := Can.hasAll_cons k1_
  obtain ⟨_, r1_1, rfl, ⟨x1_1, rfl, w1_1⟩, k1_1⟩ := Can.hasAll_cons k1_0
  obtain ⟨_, r1_2, rfl, ⟨x1_2, rfl, w1_2⟩, k1_2⟩ := Can.hasAll_cons k1_1
  obtain ⟨_, r1_3, rfl, ⟨x1_3, rfl, w1_3⟩, k1_3⟩ := Can.hasAll_cons k1_2
  obtain ⟨_, r1_4, rfl, ⟨x1_4, rfl, w1_4⟩, k1_4⟩ := Can.hasAll_cons k1_3
  obtain ⟨_, r1_5, rfl, ⟨x1_5, rfl, w1_5⟩, k1_5⟩ := Can.hasAll_cons k1_4
  obtain ⟨_, r1_6, rfl, ⟨x1_6, rfl, w1_6⟩, k1_6⟩ := Can.hasAll_cons k1_5
  obtain ⟨_, r1_7, rfl, ⟨x1_7, rfl, w1_7⟩, k1_7⟩ := Can.hasAll_cons k1_6
  obtain ⟨_, r1_8, rfl, ⟨x1_8, rfl, w1_8⟩, k1_8⟩ := Can.hasAll_cons k1_7
  obtain ⟨_, r1_9, rfl, ⟨x1_9, rfl, w1_9⟩, k1_9⟩ := Can.hasAll_cons k1_8
  obtain ⟨_, r1_10, rfl, ⟨x1_10, rfl, w1_10⟩, k1_10⟩ := Can.hasAll_cons k1_9
  obtain ⟨_, r1_11, rfl, ⟨x1_11, rfl, w1_11⟩, k1_11⟩ := Can.hasAll_cons k1_10
  obtain ⟨_, r1_12, rfl, ⟨x1_12, rfl, w1_12⟩, k1_12⟩ := Can.hasAll_cons k1_11
  obtain ⟨_, r1_13, rfl, ⟨x1_13, rfl, w1_13⟩, k1_13⟩ := Can.hasAll_cons k1_12
  obtain ⟨_, r1_14, rfl, ⟨x1_14, rfl, w1_14⟩, k1_14⟩ := Can.hasAll_cons k1_13
  obtain ⟨_, r1_15, rfl, ⟨x1_15, rfl, w1_15⟩, k1_15⟩ := Can.hasAll_cons k1_14
  obtain rfl := Can.hasAll_nil k1_15
  obtain rfl := Can.hasArgs_nil ha1
  obtain rfl := Can.arr_of ea
  obtain ⟨d0, ds0, rfl, hn0⟩ := Can.list_cons hn
  obtain ⟨d1, ds1, rfl, hn1⟩ := Can.list_cons hn0
  obtain rfl := Can.list_nil hn1
  refine ((walk hL x0_0 x0_1 x0_2 x0_3 x0_4 x0_5 x0_6 x0_7 x0_8 x0_9 x0_10 x0_11 x0_12 x0_13 x0_14 x0_15 x1_0 x1_1 x1_2 x1_3 x1_4 x1_5 x1_6 x1_7 x1_8 x1_9 x1_10 x1_11 x1_12 x1_13 x1_14 x1_15 w0_0 w0_1 w0_2 w0_3 w0_4 w0_5 w0_6 w0_7 w0_8 w0_9 w0_10 w0_11 w0_12 w0_13 w0_14 w0_15 w1_0 w1_1 w1_2 w1_3 w1_4 w1_5 w1_6 w1_7 w1_8 w1_9 w1_10 w1_11 w1_12 w1_13 w1_14 w1_15)).mono fun e W' ⟨he, x, hx⟩ => ?_
  subst he; subst hx
  exact ⟨_, rfl, law_post hW' rfl rfl (below_beyond _ _) rfl Tryd.underlying4 (by kernel_rfl) (by kernel_rfl)⟩

noncomputable def laid1 (cs : Array Value) : Obj → Obj
  | .cells _ t frozen => .cells cs t frozen
  | o => o
/-- A world for the witness: the settled one, the tables holding what their initialisers lay. -/
noncomputable def laidWorld (os : Os) : World := { World.holding Tryd.prog os ⟨#[], #[], []⟩ with heap := ((((World.holding Tryd.prog os ⟨#[], #[], []⟩).heap.modify 2 (laid1 (Can.tabCells Rows.laid_math_bits_deBruijn32tab))).modify 0 (laid1 (Can.tabCells Rows.laid_math_bits_deBruijn64tab))).modify 1 (laid1 (Can.tabCells Rows.laid_internal_strconv_uint64pow10))) }
theorem laid_met (os : Os) : laidMet Tryd.prog Rows.bitsetNextSubsetRow.laid ((laidWorld os).forCall (fun _ _ => 0) ⟨#[], #[.agg #[.int .u64 0, .int .u64 0, .int .u64 0, .int .u64 0, .int .u64 0, .int .u64 0, .int .u64 0, .int .u64 0, .int .u64 0, .int .u64 0, .int .u64 0, .int .u64 0, .int .u64 0, .int .u64 0, .int .u64 0, .int .u64 0], .agg #[.int .u64 0, .int .u64 0, .int .u64 0, .int .u64 0, .int .u64 0, .int .u64 0, .int .u64 0, .int .u64 0, .int .u64 0, .int .u64 0, .int .u64 0, .int .u64 0, .int .u64 0, .int .u64 0, .int .u64 0, .int .u64 0]], []⟩).memory :=
  laidMet_of_run' 8 (by kernel_rfl) (by kernel_rfl)
theorem reads (os : Os) {H : Type} (enc : TypeId × Value → H) : ∃ places, DataW.whole enc Tryd.prog ((laidWorld os).forCall (fun _ _ => 0) ⟨#[], #[.agg #[.int .u64 0, .int .u64 0, .int .u64 0, .int .u64 0, .int .u64 0, .int .u64 0, .int .u64 0, .int .u64 0, .int .u64 0, .int .u64 0, .int .u64 0, .int .u64 0, .int .u64 0, .int .u64 0, .int .u64 0, .int .u64 0], .agg #[.int .u64 0, .int .u64 0, .int .u64 0, .int .u64 0, .int .u64 0, .int .u64 0, .int .u64 0, .int .u64 0, .int .u64 0, .int .u64 0, .int .u64 0, .int .u64 0, .int .u64 0, .int .u64 0, .int .u64 0, .int .u64 0]], []⟩).memory Tryd.f8.params.toList Rows.bitsetNextSubsetSpec.vars false (#[.agg #[.int .u64 0, .int .u64 0, .int .u64 0, .int .u64 0, .int .u64 0, .int .u64 0, .int .u64 0, .int .u64 0, .int .u64 0, .int .u64 0, .int .u64 0, .int .u64 0, .int .u64 0, .int .u64 0, .int .u64 0, .int .u64 0], .agg #[.int .u64 0, .int .u64 0, .int .u64 0, .int .u64 0, .int .u64 0, .int .u64 0, .int .u64 0, .int .u64 0, .int .u64 0, .int .u64 0, .int .u64 0, .int .u64 0, .int .u64 0, .int .u64 0, .int .u64 0, .int .u64 0]] : Array Value).toList 8 = some ([.agg [.lit (.int .u64 0), .lit (.int .u64 0), .lit (.int .u64 0), .lit (.int .u64 0), .lit (.int .u64 0), .lit (.int .u64 0), .lit (.int .u64 0), .lit (.int .u64 0), .lit (.int .u64 0), .lit (.int .u64 0), .lit (.int .u64 0), .lit (.int .u64 0), .lit (.int .u64 0), .lit (.int .u64 0), .lit (.int .u64 0), .lit (.int .u64 0)], .agg [.lit (.int .u64 0), .lit (.int .u64 0), .lit (.int .u64 0), .lit (.int .u64 0), .lit (.int .u64 0), .lit (.int .u64 0), .lit (.int .u64 0), .lit (.int .u64 0), .lit (.int .u64 0), .lit (.int .u64 0), .lit (.int .u64 0), .lit (.int .u64 0), .lit (.int .u64 0), .lit (.int .u64 0), .lit (.int .u64 0), .lit (.int .u64 0)]], [], places) :=
  ⟨[], by kernel_rfl⟩

set_option maxRecDepth 100000 in
theorem lifted (os : Os) (started : os.Started) (H : Type) (enc : TypeId × Value → H) (F : Stop.Interp) :
    ReturnsInHanded {} Tryd.checked os 8 .any ((OpenSpec.ofChange Rows.bitsetNextSubsetSpec).preRow enc Tryd.prog Tryd.f8 Rows.bitsetNextSubsetRow.domain false Rows.bitsetNextSubsetRow.laid) (((OpenSpec.ofChange Rows.bitsetNextSubsetSpec).at F).post enc Tryd.prog Tryd.f8 false true false false) := by
  obtain ⟨places, hx⟩ := reads os enc
  refine returnsInHanded_of_row (C := Tryd.checked) (s := OpenSpec.ofChange Rows.bitsetNextSubsetSpec) own started (by kernel_rfl) Tryd.func8
    (witness_row_at (enc := enc) (C := Tryd.checked) false (laidWorld os) #[.agg #[.int .u64 0, .int .u64 0, .int .u64 0, .int .u64 0, .int .u64 0, .int .u64 0, .int .u64 0, .int .u64 0, .int .u64 0, .int .u64 0, .int .u64 0, .int .u64 0, .int .u64 0, .int .u64 0, .int .u64 0, .int .u64 0], .agg #[.int .u64 0, .int .u64 0, .int .u64 0, .int .u64 0, .int .u64 0, .int .u64 0, .int .u64 0, .int .u64 0, .int .u64 0, .int .u64 0, .int .u64 0, .int .u64 0, .int .u64 0, .int .u64 0, .int .u64 0, .int .u64 0]] rfl (by kernel_rfl) (by kernel_rfl) (by kernel_rfl)
      (OpenSpec.preRow_of_cond 8 hx (by kernel_rfl) (fun k hk => by cases hk) (by kernel_rfl) (laid_met os))) ?_
  intro W base args ds gs before hval hW _ _ _ hL _ _
  exact contract H enc W base args ds gs before hval hW hL

theorem said : Rows.BitsetNextSubsetSaid :=
  OpenClaim.holds_of_cond 8 Tryd.f8 rfl rfl rfl rfl rfl rfl rfl ⟨rfl, rfl, rfl, rfl, rfl⟩ rfl rfl rfl rfl rfl (by kernel_rfl) Tryd.func8 (by kernel_rfl)
    (of_decide_eq_true (by kernel_rfl)) (by unfold Func.isWrapper; first | (rw [if_pos (by decide +kernel)]; kernel_rfl) | (rw [if_neg (by decide +kernel)]; exact ⟨rfl, rfl⟩))
    (fun os started H enc _ F => by rw [OpenClaim.pre_eq_preRow]; exact lifted os started H enc F)

theorem plain (f : FuncId) (fn : Func) (hf : Tryd.pinned.checked.prog.funcNamed "palmette/palmettelaw01.BitsetNextSubset" = some f) (hfn : Tryd.pinned.checked.prog.funcs[f]? = some fn) :
    false = Tryd.pinned.checked.prog.looks [] ∧ ∀ (j : Nat) t, fn.params[j]? = some t → Tryd.pinned.checked.prog.wantsStandIn t = false := by
  obtain rfl : f = 8 := Option.some.inj ((show Tryd.prog.funcNamed "palmette/palmettelaw01.BitsetNextSubset" = some 8 by kernel_rfl).symm.trans hf) |>.symm
  obtain rfl : fn = Tryd.f8 := (Option.some.inj (Tryd.func8.symm.trans hfn)).symm
  exact ⟨by kernel_rfl, fun j t ht => Can.wants_of (P := Tryd.pinned.checked.prog) (by kernel_rfl) j t ht⟩

theorem card : Rows.BitsetNextSubsetCardSaid :=
  Claim7.holds_tied_plain_at .later [] _ _ _ _ said (fun _ h => by cases h) (by kernel_rfl) (fun _ h => by cases h) bitsetNextSubset_row_tie rfl ⟨rfl, rfl⟩ (by kernel_rfl) rfl plain (by kernel_rfl)
end Go.Proofs.YtjneboajbmabbaaDoor.bitsetNextSubset
