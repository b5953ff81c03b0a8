/-
  bitset.Parse.
-/
import Derived.Test.YtjneboajbmabbaaDoorMB1
import Derived.Test.YtjneboajbmabbaaDoorMB2
import Derived.Test.YtjneboajbmabbaaDoorMLP1
import Derived.Test.YtjneboajbmabbaaDoorCards
import Derived.Test.YtjneboajbmabbaaDoorTie
import Derived.Test.YtjneboajbmabbaaDoorCanAG
import Derived.WalkKit
import Derived.ProofKit
import Derived.OpenShut
import Derived.Deep.DeepHandedRow
import Derived.Laws.AppendOwnNone
import Derived.Laws.IdiomStrings
import Derived.Test.YtjneboajbmabbaaDoorProg
import Derived.PlainAid
set_option linter.unusedSimpArgs false
set_option linter.unusedVariables false
namespace Go.Proofs.YtjneboajbmabbaaDoor.bitsetParse
open Go.ChangeShapes Go.WideShapes Go.ChangeAt Go.RowKit Go.Joins Go.Own

theorem own : ownKnob Tryd.prog.godebug = none := by kernel_rfl
theorem pc : Can.PC2 Tryd.prog := .of_bool (by kernel_rfl)
noncomputable def tab : Nat → Array Value
  | 0 => Can.tabCells Rows.laid_math_bits_deBruijn64tab
  | 1 => Can.tabCells Rows.laid_internal_strconv_uint64pow10
  | 2 => Can.tabCells Rows.laid_math_bits_deBruijn32tab
  | _ => #[]
noncomputable def H0 (T : Nat → TypeId) : Array Obj := #[.cells (tab 0) (T 0), .cells (tab 1) (T 1), .cells (tab 2) (T 2)]
theorem tabAt (T : Nat → TypeId) (g : Nat) (hg : g ∈ ([0, 1, 2] : List Nat)) : (H0 T)[g]? = some (.cells (tab g) (T g) (0, 0)) := by
  simp only [List.mem_cons, List.not_mem_nil, or_false] at hg
  rcases hg with rfl | rfl | rfl
  all_goals rfl
theorem tabPlain (g : Nat) (hg : g ∈ ([0, 1, 2] : List Nat)) : (tab g).all (Can.plainV 60) = true := by
  simp only [List.mem_cons, List.not_mem_nil, or_false] at hg
  rcases hg with rfl | rfl | rfl
  all_goals kernel_rfl
set_option maxRecDepth 100000 in
theorem knownTrue (T : Nat → TypeId) : Can.evTrue (Can.evS Tryd.prog [0, 1, 2] (Can.noSm) 3000 (.call 24 #[]) (Can.AW.start (H0 T))) = true := by kernel_rfl
noncomputable def sm : Can.RecD := Can.orSmD (Can.liftSm (Can.knownSm 24 tab [0, 1, 2])) (Can.liftSm (Can.noSm))
theorem sums : Can.RecOkD Tryd.prog [0, 1, 2] sm := Can.orSmD_ok (Can.liftSm_ok (Can.knownSm_ok pc (Can.noSm_ok) tabAt tabPlain knownTrue)) (Can.liftSm_ok (Can.noSm_ok))
theorem known {W : World} (hL : laidMetH Tryd.prog Rows.bitsetParseRow.laid W) : Can.Known (H0 (Can.tyAt W)) (Can.onG [0, 1, 2]) W := by
  refine Can.known_onG fun g hg => ?_
  simp only [List.mem_cons, List.not_mem_nil, or_false] at hg
  rcases hg with rfl | rfl | rfl
  · exact ⟨tab 0, Can.tyAt W 0, rfl, Can.laid_tab hL (by kernel_rfl) (List.mem_of_getElem? (i := 1) rfl) (by kernel_rfl) (by kernel_rfl) (by decide +kernel), by kernel_rfl⟩
  · exact ⟨tab 1, Can.tyAt W 1, rfl, Can.laid_tab hL (by kernel_rfl) (List.mem_of_getElem? (i := 2) rfl) (by kernel_rfl) (by kernel_rfl) (by decide +kernel), by kernel_rfl⟩
  · exact ⟨tab 2, Can.tyAt W 2, rfl, Can.laid_tab hL (by kernel_rfl) (List.mem_of_getElem? (i := 0) rfl) (by kernel_rfl) (by kernel_rfl) (by decide +kernel), by kernel_rfl⟩
end Go.Proofs.YtjneboajbmabbaaDoor.bitsetParse

namespace Go.Proofs.YtjneboajbmabbaaDoor.ref1
open Go.RowKit Go.Own Go.Rw Go.SetL Go.Bits Go.Tz
set_option maxHeartbeats 1000000
set_option maxRecDepth 100000
attribute [local irreducible] beyond grow over

def above (r : List Int) (n : Int) : List Int := r.filter fun x => decide (n < x)
def stepN (r p : List Int) (n : Int) : Bool := !r.contains n && (minusL (above r n) p).length == 0
def nextL (r p : List Int) : List Int × Bool := match p.find? (stepN r p) with
  | some n => (n :: above r n, true)
  | none => ([], false)
theorem above_snoc {r : List Int} {k : Nat} {x n : Int} (h : r[k]? = some x) : above (r.take (k + 1)) n = above (r.take k) n ++ if n < x then [x] else [] := by
  unfold above; rw [take_next h, List.filter_append]; by_cases hx : n < x <;> simp [hx]
theorem above_len (r : List Int) (n : Int) : (above r n).length ≤ r.length := List.length_filter_le _ _
theorem own_one {w : World} {B : Nat} (T : TypeId) (hb : B ≤ w.heap.size) (n : Int) : Own (w.alloc (.cells #[.int .i64 n] T)) B T (.slice (some ⟨w.heap.size, 0, none⟩) 1 1) [n] :=
  ⟨by simp, .inr ⟨w.heap.size, 1, #[.int .i64 n], rfl, hb, heap_alloc_new w _, Nat.le_refl _, by unfold maxLen; omega, rfl, rfl⟩⟩
theorem cells_one (l : List Int) : ∀ u ∈ l.map (Value.int .i64), u.oneCell' = true := by
  intro u hu; obtain ⟨x, _, rfl⟩ := List.mem_map.1 hu; rfl
/-- append(out, l...) -/
theorem wpList_appS {P : Program} {ops : Array Oper} {rest : List Oper} {o : Oper} {a : Act} {Q : Exit → Act → World → Prop} (w : World) (hgd : o.guard = none) (s x : Operand) (t : TypeId)
    (ho : o.op = .call { callee := .builtin .append, args := #[s, x], argTypes := #[t, t] }) {T : TypeId} (ht : P.underlying t = some (.slice T))
    (hT : (P.info? T).map (fun i => (i.zero, i.size, i.bytes)) = some (some (.int .i64 0), 1, 8))
    {v : Value} {l : List Int} {B : Nat} (hown : Own w B T v l) (hB : B ≤ w.heap.size) {u : Value} {l2 : List Int} {B2 : Nat} (hown2 : Own w B2 T u l2) (hl : l.length + l2.length ≤ 1000000)
    (hs : a.eval s = v) (hx : a.eval x = u)
    (h : ∀ v' w', Own w' B T v' (l ++ l2) → Below B w w' → wpList P ops Q rest (a.put o.dst v') w') : wpList P ops Q (o :: rest) a w := by
  obtain ⟨i0, hi, hz0, hz1, hz2⟩ := info_parts hT
  rcases hown2.2 with ⟨rfl, hk⟩ | ⟨g, cap, cur, rfl, hb', hgg, hn, hc, hsz, htk⟩
  · obtain rfl := List.eq_nil_of_length_eq_zero hk
    exact wpList_append_own_none hgd s x t ho B T i0 1 ht hi v l.length (l.map (Value.int .i64)) hs hown hx (h v w (by simpa using hown) (Below.refl _ _))
  · refine wpList_append_own w hgd s x t ho B T i0 (.int .i64 0) 1 8 ht hi hz0 hz1 hz2 rfl (by decide) v l.length (l.map (Value.int .i64)) hs hown _ l2.length cap (l2.map (Value.int .i64)) hx (by simp) (fun j u hu => World.ownsRow.cells hown2 (g := g) rfl j u hu) (cells_one l2) (by unfold maxLen; omega) (by omega) hB ?_
    intro v' w' h1 h2 _
    refine h v' w' ?_ ?_
    · unfold Own; simpa using h1
    · exact (Below.refl _ _).grown h2 hB (fun r hr => (hown.lt r hr).1)
theorem find_take {f : Int → Bool} : ∀ {p : List Int} {k : Nat} {n : Int}, (∀ x ∈ p.take k, f x = false) → p[k]? = some n → f n = true → p.find? f = some n
  | [], _, _, _, h, _ => by simp at h
  | a :: p, 0, n, _, h, hf => by simp at h; subst h; simp [hf]
  | a :: p, k + 1, n, h0, h, hf => by
    have ha := h0 a (by simp)
    rw [List.find?_cons, ha]
    exact find_take (k := k) (fun x hx => h0 x (by simp [hx])) (by simpa using h) hf
/-- a row is stored over a block that holds one -/
theorem wpList_store_over {P : Program} {ops : Array Oper} {rest : List Oper} {op : Oper} {a : Act} {w : World} {Q : Exit → Act → World → Prop} (hgd : op.guard = none) (ty : TypeId) (x y : Operand) (ho : op.op = .store ty x y)
    (cells : Array Value) (t : TypeId) (old : Array Value) (g : Nat) (hx : a.eval x = .pointer (some ⟨g, 0, none⟩)) (hg : BlkAt g old t w) (hy : a.eval y = .agg cells)
    (hi : (P.info? ty).map (·.size) = some cells.size) (hs : old.size = cells.size) (h1 : cells.all (·.oneCell') = true)
    (h : ∀ w', (∀ g' cs' t', g' ≠ g → BlkAt g' cs' t' w → BlkAt g' cs' t' w') → BlkAt g cells t w' → Below g w w' → wpList P ops Q rest (a.put op.dst undef) w') : wpList P ops Q (op :: rest) a w := by
  refine wpList_store_block hgd ty x y ho g cells t old hx hy hg.all hi hs h1 ?_
  refine h _ (fun g' cs' t' hne hk => ⟨?_⟩) ⟨?_⟩ (below_setRow (Below.refl _ _) (Nat.le_refl _) _)
  · have := hk.all
    unfold blockOf at this ⊢
    simp only [World.setRow, Array.getElem?_modify]
    rw [if_neg (fun e => hne e.symm)]; exact this
  · have := hg.all
    unfold blockOf at this ⊢
    simp [World.setRow, Array.getElem?_modify, this]
/-- what Next hands back -/
def RetN (W : World) (l : List Int) (b : Bool) (e : Ending) (w' : World) : Prop := ∃ q m c y, e = .returned (.tuple #[.slice q m c, .bool b]) ∧ w' = beyond W y ∧ IsAt q m c l w'
theorem rnext_calls {q q2 : Option Addr} {m c m2 c2 : Nat} {r p : List Int} {w : World} (h : IsAt q m c r w) (h2 : IsAt q2 m2 c2 p w) (hr : m ≤ 100000) :
    Calls Tryd.prog 45 #[.slice q m c, .slice q2 m2 c2] w (RetN w (nextL r p).1 (nextL r p).2) := by
  have HA := Lib.hid h
  have HA2 := Lib.hid h2
  have hb2 := h2.all.2.1
  clear h h2
  go_enter Tryd.func45, Tryd.ntmps45
  go_wp2
  go_loopw [6] (fun i wo => ∃ k : Nat, k ≤ m2 ∧ i = .int .i64 k ∧ Hid (∀ x ∈ p.take k, stepN r p x = false) ∧ ∃ y, wo = beyond w y) (fun i _ => m2 - (intOf i).toNat)
  case atStart => exact ⟨0, Nat.zero_le _, rfl, Lib.hid (by simp), beyond_of (by repeat (first | assumption | exact Below.refl _ _ | exact below_beyond _ _ | refine Below.beyond ?_ (by (try simp [size_beyond]) <;> omega) _ | refine Below.drew ?_ | refine Go.Rw.below_drewN ?_ _ | refine Go.Rw.below_setRow ?_ (by (try simp [size_beyond]) <;> omega) _ | refine Below.alloc ?_ (by (try simp [size_beyond]) <;> omega) _ | refine Below.setCell ?_ (by (try simp [size_beyond]) <;> omega) _))⟩
  case round =>
    obtain ⟨k, hk, rfl, HN, yo, rfl⟩ := hrel
    by_cases hlt : k < m2
    · obtain ⟨b, off, n, rfl, hx, hbw, hc⟩ := HA2.out.all.2.2.2.2.at (k := k) (by rw [← HA2.out.all.1]; exact hlt)
      have hc := ((below_beyond w yo).cell hbw).trans hc
      have HX := Lib.hid hx; clear hx
      cases hcn : r.contains n
      · have HCN := Lib.hid hcn; clear hcn
        go_wp2_with (go_at_call 22; refine (rhas_at n (HA.out.below (by repeat (first | assumption | exact Below.refl _ _ | exact below_beyond _ _ | refine Below.beyond ?_ (by (try simp [size_beyond]) <;> omega) _ | refine Below.drew ?_ | refine Go.Rw.below_drewN ?_ _ | refine Go.Rw.below_setRow ?_ (by (try simp [size_beyond]) <;> omega) _ | refine Below.alloc ?_ (by (try simp [size_beyond]) <;> omega) _ | refine Below.setCell ?_ (by (try simp [size_beyond]) <;> omega) _)))).mono ?_; rw [HCN.out]; rintro e w1 ⟨rfl, rfl⟩)
        generalize hW1 : beyond w yo = W1
        have HB0 := Lib.hid (show Below w.heap.size w W1 from hW1 ▸ below_beyond w yo)
        have hs0 := HB0.out.size
        rw [hW1] at hc
        clear hW1
        go_loopw [8, 9] (fun v i wr => ∃ j : Nat, j ≤ m ∧ i = .int .i64 j ∧ Hid (Own wr W1.heap.size 3 v (above (r.take j) n)) ∧ Hid (Below W1.heap.size W1 wr)) (fun _ i _ => m - (intOf i).toNat)
        case atStart => exact ⟨0, Nat.zero_le _, rfl, Lib.hid (Own.made _ (Nat.le_refl _)), Lib.hid (by repeat (first | assumption | exact Below.refl _ _ | exact below_beyond _ _ | refine Below.beyond ?_ (by (try simp [size_beyond]) <;> omega) _ | refine Below.drew ?_ | refine Go.Rw.below_drewN ?_ _ | refine Go.Rw.below_setRow ?_ (by (try simp [size_beyond]) <;> omega) _ | refine Below.alloc ?_ (by (try simp [size_beyond]) <;> omega) _ | refine Below.setCell ?_ (by (try simp [size_beyond]) <;> omega) _))⟩
        case round =>
          obtain ⟨j, hj, rfl, HO, HB⟩ := hrel
          have hB : W1.heap.size ≤ wr.heap.size := HB.out.size
          have HL : (above (r.take j) n).length ≤ 100000 := Nat.le_trans (above_len _ _) (by simp; omega)
          by_cases hjm : j < m
          · obtain ⟨b3, off3, x, rfl, hx3, hbw3, hc3⟩ := (HA.out.all.2.2.2.2.below (HB0.out.trans (HB.out.mono hs0))).at (k := j) (by rw [← HA.out.all.1]; exact hjm)
            have HX3 := Lib.hid (above_snoc (n := n) hx3); clear hx3
            by_cases hnx : n < x
            · go_wp2_with (at_builtin; refine wpList_app wr rfl _ _ _ rfl uI tI HO.out hB (by omega) x rfl rfl ?_)
              intro v' w' hown hbel
              have HO2 := Lib.hid hown; clear hown
              have HB2 := Lib.hid (HB.out.trans hbel); clear hbel
              go_wp2
              go_roundw
              case rel => exact ⟨j + 1, by omega, by go_num, Lib.hid (by rw [HX3.out, if_pos hnx]; exact HO2.out), HB2⟩
              case measure => simp [intOf]; omega
            · go_wp2
              go_roundw
              case rel => exact ⟨j + 1, by omega, by go_num, Lib.hid (by rw [HX3.out, if_neg (by omega), List.append_nil]; exact HO.out), HB⟩
              case measure => simp [intOf]; omega
          · obtain rfl : j = m := by omega
            have HT := Lib.hid (show r.take j = r from List.take_of_length_le (by rw [← HA.out.all.1]; exact Nat.le_refl _))
            rw [HT.out] at HO HL
            obtain ⟨q3, c3, rfl, hc31, hc32, hr3⟩ := HO.out.slice
            have H3 : IsAt q3 (above r n).length c3 (above r n) wr := ⟨rfl, by omega, hc31, hc32, hr3⟩
            have HB1 := Lib.hid (HB0.out.trans (HB.out.mono hs0))
            have hcr := (HB.out.cell (p := ⟨b, off + k, none⟩) (by show b < W1.heap.size; omega)).trans hc
            have HSN := Lib.hid (show stepN r p n = ((minusL (above r n) p).length == 0) by unfold stepN; rw [HCN.out]; rfl)
            clear hc31 hc32 hr3
            generalize (above r n).length = m3 at H3 HL HO ⊢
            cases hst : stepN r p n
            · have HW := Lib.hid (show ((minusL (above r n) p).length == 0) = false by rw [← HSN.out]; exact hst)
              have HST := Lib.hid hst; clear hst
              go_wp2_with (go_at_call 36; refine (within_calls H3.all.1 (by omega) H3.all.2.2.2.2 HA2.out.all.1 (by omega) (HA2.out.all.2.2.2.2.below HB1.out)).mono ?_; rw [HW.out]; rintro e w1 ⟨rfl, y1, rfl⟩)
              go_roundw
              case rel => exact ⟨k + 1, by omega, by go_num, Lib.hid (by
                intro x hx; rw [take_next HX.out] at hx
                rcases List.mem_append.1 hx with h | h
                · exact HN.out x h
                · simp at h; subst h; exact HST.out), beyond_of (HB1.out.trans ((below_beyond _ _).mono HB1.out.size))⟩
              case measure => simp [intOf]; omega
            · have HW := Lib.hid (show ((minusL (above r n) p).length == 0) = true by rw [← HSN.out]; exact hst)
              have HST := Lib.hid hst; clear hst
              go_wp2_with (first | (go_at_call 36; refine (within_calls H3.all.1 (by omega) H3.all.2.2.2.2 HA2.out.all.1 (by omega) (HA2.out.all.2.2.2.2.below HB1.out)).mono ?_; rw [HW.out]; rintro e w1 ⟨rfl, y1, rfl⟩) | (at_builtin; refine wpList_appS _ rfl _ _ _ rfl uI tI (own_one 3 (Nat.le_refl _) n) (by simp) (Own.below (Own.below HO.out (below_beyond wr y1)) (by repeat (first | assumption | exact Below.refl _ _ | exact below_beyond _ _ | refine Below.beyond ?_ (by (try simp [size_beyond]) <;> omega) _ | refine Below.drew ?_ | refine Go.Rw.below_drewN ?_ _ | refine Go.Rw.below_setRow ?_ (by (try simp [size_beyond]) <;> omega) _ | refine Below.alloc ?_ (by (try simp [size_beyond]) <;> omega) _ | refine Below.setCell ?_ (by (try simp [size_beyond]) <;> omega) _))) (by have := above_len r n; have := HA.out.all.1; simp; omega) rfl rfl ?_))
              intro v' w' hown hbel
              have hown : Own w' _ _ _ (n :: above r n) := hown
              obtain ⟨q4, c4, rfl, hc41, hc42, hr4⟩ := hown.slice
              have H4 : IsAt q4 (n :: above r n).length c4 (n :: above r n) w' := ⟨rfl, by have := above_len r n; have := HA.out.all.1; simp; omega, hc41, hc42, hr4⟩
              have HE := Lib.hid (show nextL r p = (n :: above r n, true) by
                unfold nextL; rw [find_take HN.out HX.out HST.out])
              have HB5 := Lib.hid (show Below w.heap.size w w' from (HB1.out.trans ((below_beyond wr y1).mono HB1.out.size)).trans (Below.trans (Below.alloc (Below.refl _ _) (Nat.le_refl _) _ |>.mono (by have := HB1.out.size; simp [size_beyond]; omega)) (hbel.mono (by have := HB1.out.size; simp [size_beyond]; omega))))
              clear hown hbel hc41 hc42 hr4
              generalize (n :: above r n).length = m4 at H4 ⊢
              go_wp2
              go_ret2
              rw [HE.out]
              exact ⟨_, _, _, _, rfl, (beyond_of HB5.out).choose_spec, H4⟩
      · have HCN := Lib.hid hcn; clear hcn
        go_wp2_with (go_at_call 22; refine (rhas_at n (HA.out.below (by repeat (first | assumption | exact Below.refl _ _ | exact below_beyond _ _ | refine Below.beyond ?_ (by (try simp [size_beyond]) <;> omega) _ | refine Below.drew ?_ | refine Go.Rw.below_drewN ?_ _ | refine Go.Rw.below_setRow ?_ (by (try simp [size_beyond]) <;> omega) _ | refine Below.alloc ?_ (by (try simp [size_beyond]) <;> omega) _ | refine Below.setCell ?_ (by (try simp [size_beyond]) <;> omega) _)))).mono ?_; rw [HCN.out]; rintro e w1 ⟨rfl, rfl⟩)
        go_roundw
        case rel => exact ⟨k + 1, by omega, by go_num, Lib.hid (by
          intro x hx; rw [take_next HX.out] at hx
          rcases List.mem_append.1 hx with h | h
          · exact HN.out x h
          · simp at h; subst h; unfold stepN; rw [HCN.out]; rfl), beyond_of (by repeat (first | assumption | exact Below.refl _ _ | exact below_beyond _ _ | refine Below.beyond ?_ (by (try simp [size_beyond]) <;> omega) _ | refine Below.drew ?_ | refine Go.Rw.below_drewN ?_ _ | refine Go.Rw.below_setRow ?_ (by (try simp [size_beyond]) <;> omega) _ | refine Below.alloc ?_ (by (try simp [size_beyond]) <;> omega) _ | refine Below.setCell ?_ (by (try simp [size_beyond]) <;> omega) _))⟩
        case measure => simp [intOf]; omega
    · obtain rfl : k = m2 := by omega
      have HT := Lib.hid (show p.take k = p from List.take_of_length_le (by rw [← HA2.out.all.1]; exact Nat.le_refl _))
      have HE := Lib.hid (show nextL r p = ([], false) by
        unfold nextL; rw [List.find?_eq_none.2]
        intro x hx; have := HN.out; rw [HT.out] at this; rw [this x hx]; decide)
      go_wp2
      go_ret2
      rw [HE.out]
      exact ⟨_, _, _, _, rfl, (beyond_of (by repeat (first | assumption | exact Below.refl _ _ | exact below_beyond _ _ | refine Below.beyond ?_ (by (try simp [size_beyond]) <;> omega) _ | refine Below.drew ?_ | refine Go.Rw.below_drewN ?_ _ | refine Go.Rw.below_setRow ?_ (by (try simp [size_beyond]) <;> omega) _ | refine Below.alloc ?_ (by (try simp [size_beyond]) <;> omega) _ | refine Below.setCell ?_ (by (try simp [size_beyond]) <;> omega) _))).choose_spec, ⟨rfl, by omega, Nat.le_refl _, Nat.zero_le _, .inl rfl⟩⟩
end Go.Proofs.YtjneboajbmabbaaDoor.ref1

namespace Go.Proofs.YtjneboajbmabbaaDoor.ref1
open Go.RowKit Go.Own Go.Rw Go.SetL Go.Bits Go.Tz

theorem find_sorted {f : Int → Bool} : ∀ {l : List Int} {n : Int}, l.Pairwise (· < ·) → n ∈ l → f n = true → (∀ x ∈ l, x < n → f x = false) → l.find? f = some n
  | [], _, _, h, _, _ => by cases h
  | a :: l, n, hs, hm, hf, hb => by
    obtain ⟨ha, hl⟩ := List.pairwise_cons.1 hs
    rcases List.mem_cons.1 hm with rfl | h
    · simp [hf]
    · have := hb a (by simp) (ha n h)
      rw [List.find?_cons, this]
      exact find_sorted hl h hf fun x hx => hb x (by simp [hx])
theorem step_iff {xs ys : List W} {i : Nat} (hi : i < 1024) : stepN (elems xs) (elems ys) (i : Int) = true ↔ bitAt xs i = false ∧ ∀ j, i < j → j < 1024 → bitAt xs j = true → bitAt ys j = true := by
  unfold stepN
  rw [Bool.and_eq_true, Bool.not_eq_true', show (elems xs).contains (i : Int) = bitAt xs i from contains_ofP _ _ hi, beq_iff_eq]
  refine and_congr_right fun _ => ?_
  constructor
  · intro h j hj hj2 hb
    have h0 := List.eq_nil_of_length_eq_zero h
    have hm : (j : Int) ∈ above (elems xs) (i : Int) := List.mem_filter.2 ⟨mem_ofP.2 ⟨j, rfl, hj2, hb⟩, by simp; omega⟩
    cases hy : bitAt ys j
    · have : (j : Int) ∈ minusL (above (elems xs) (i : Int)) (elems ys) := List.mem_filter.2 ⟨hm, by rw [show (elems ys).contains (j : Int) = bitAt ys j from contains_ofP _ _ hj2, hy]; rfl⟩
      rw [h0] at this; cases this
    · rfl
  · intro h
    rw [List.length_eq_zero_iff, List.eq_nil_iff_forall_not_mem]
    intro x hx
    obtain ⟨h1, h2⟩ := List.mem_filter.1 hx
    obtain ⟨h3, h4⟩ := List.mem_filter.1 h1
    obtain ⟨j, rfl, h5, h6⟩ := mem_ofP.1 h3
    rw [show (elems ys).contains (j : Int) = bitAt ys j from contains_ofP _ _ h5, h j (by simpa using h4) h5 h6] at h2
    cases h2
/-- what is free above the top of what is not in the larger set -/
def free2 (xs ys : List W) (t : Int) (b : Bool) : List W := if b = true then subR (subR ys xs) (belowS (t + 1)) else subR ys xs
theorem free2_len {xs ys : List W} (hx : xs.length = 16) (hy : ys.length = 16) (t : Int) (b : Bool) : (free2 xs ys t b).length = 16 := by
  unfold free2; split
  · exact sub16_len (sub16_len hy hx) (belowS_len _)
  · exact sub16_len hy hx
theorem bit_sub {xs ys : List W} (hx : xs.length = 16) (hy : ys.length = 16) {i : Nat} (hi : i < 1024) : bitAt (subR xs ys) i = (bitAt xs i && !bitAt ys i) :=
  bitAt_zip (fun a b => a &&& ~~~b) (fun a b => a && !b) (fun a b i h => by simp [h]) hx hy hi
theorem free_iff {xs ys : List W} (hx : xs.length = 16) (hy : ys.length = 16) {t : Int} {b : Bool} (ht : IsMax (subR xs ys) t b) {i : Nat} (hi : i < 1024) :
    bitAt (free2 xs ys t b) i = true ↔ bitAt ys i = true ∧ stepN (elems xs) (elems ys) (i : Int) = true := by
  rw [step_iff hi]
  rcases ht with ⟨rfl, k, rfl, h1, h2, h3⟩ | ⟨rfl, rfl, h0⟩
  · unfold free2
    rw [if_pos rfl, bit_sub (sub16_len hy hx) (belowS_len _) hi, bit_sub hy hx hi, bitAt_below _ i hi]
    rw [bit_sub hx hy h1] at h2
    simp only [Bool.and_eq_true, Bool.not_eq_true', decide_eq_false_iff_not] at h2 ⊢
    constructor
    · rintro ⟨⟨a1, a2⟩, a3⟩
      refine ⟨a1, a2, fun j hj hj2 hb => ?_⟩
      have h4 := h3 j (by omega) hj2
      rw [bit_sub hx hy hj2, hb] at h4
      simpa using h4
    · rintro ⟨a1, a2, a3⟩
      refine ⟨⟨a1, a2⟩, fun hlt => ?_⟩
      rcases Nat.lt_or_ge i k with h4 | h4
      · have := a3 k h4 h1 h2.1
        rw [h2.2] at this; cases this
      · obtain rfl : i = k := by omega
        rw [h2.2] at a1; cases a1
  · unfold free2
    rw [if_neg (by decide), bit_sub hy hx hi]
    simp only [Bool.and_eq_true, Bool.not_eq_true']
    constructor
    · rintro ⟨a1, a2⟩
      refine ⟨a1, a2, fun j hj hj2 hb => ?_⟩
      have h4 := h0 j hj2
      rw [bit_sub hx hy hj2, hb] at h4
      simpa using h4
    · rintro ⟨a1, a2, _⟩; exact ⟨a1, a2⟩
theorem next_no {xs ys : List W} (hx : xs.length = 16) (hy : ys.length = 16) {t n : Int} {b : Bool} (ht : IsMax (subR xs ys) t b) (hm : IsMin (free2 xs ys t b) n false) : nextL (elems xs) (elems ys) = ([], false) := by
  unfold nextL
  rw [List.find?_eq_none.2]
  intro x hx'
  obtain ⟨i, rfl, h1, h2⟩ := mem_ofP.1 hx'
  rcases hm with ⟨h, _⟩ | ⟨_, _, h0⟩
  · cases h
  · intro hs
    have := (free_iff hx hy ht h1).2 ⟨h2, hs⟩
    rw [h0 i h1] at this; cases this
theorem next_yes {xs ys : List W} (hx : xs.length = 16) (hy : ys.length = 16) {t n : Int} {b : Bool} (ht : IsMax (subR xs ys) t b) (hm : IsMin (free2 xs ys t b) n true) :
    nextL (elems xs) (elems ys) = (n :: above (elems xs) n, true) ∧ rowOf (n :: above (elems xs) n) = withS (subR xs (belowS n)) n ∧ 0 ≤ n ∧ n < 1024 := by
  rcases hm with ⟨_, k, rfl, h1, h2, h3⟩ | ⟨h, _⟩
  · have hk := (free_iff hx hy ht h1).1 h2
    refine ⟨?_, ?_, by omega, by omega⟩
    · unfold nextL
      rw [find_sorted (l := elems ys) (n := (k : Int)) (sorted_ofP (bitAt ys)) (mem_ofP.2 ⟨k, rfl, h1, hk.1⟩) hk.2 fun x hx' hlt => ?_]
      obtain ⟨i, rfl, h4, h5⟩ := mem_ofP.1 hx'
      rw [Bool.eq_false_iff]
      intro hs
      have := (free_iff hx hy ht h4).2 ⟨h5, hs⟩
      rw [h3 i (by omega)] at this; cases this
    · refine elems_inj (rowOf_len _) (by rw [withS_len]; exact sub16_len hx (belowS_len _)) ?_
      rw [elems_rowOf, elems_with (sub16_len hx (belowS_len _)), elems_sub hx (belowS_len _)]
      refine ext_sorted (foldl_sorted .nil) (sorted_withL ((sorted_ofP _).filter _)) fun x => ?_
      have hbel : ∀ j : Nat, j < 1024 → (elems (belowS (k : Int))).contains (j : Int) = decide ((j : Int) < (k : Int)) := fun j hj => (contains_ofP _ _ hj).trans (bitAt_below _ j hj)
      simp only [ofL, foldl_with, List.not_mem_nil, false_or, mem_withL, minusL, above, List.mem_cons, List.mem_filter]
      constructor
      · rintro ⟨rfl | ⟨a1, a2⟩, a3, a4⟩
        · exact .inr ⟨rfl, by omega, by omega⟩
        · obtain ⟨j, rfl, h4, h5⟩ := mem_ofP.1 a1
          refine .inl ⟨a1, ?_⟩
          rw [hbel j h4]
          simp only [decide_eq_true_eq] at a2
          rw [decide_eq_false (by omega)]; rfl
      · rintro (⟨a1, a2⟩ | ⟨rfl, a3, a4⟩)
        · obtain ⟨j, rfl, h4, h5⟩ := mem_ofP.1 a1
          rw [hbel j h4] at a2
          refine ⟨?_, by omega, by omega⟩
          by_cases e : (j : Int) = k
          · exact .inl e
          · refine .inr ⟨a1, ?_⟩
            simp at a2 ⊢; omega
        · exact ⟨.inl rfl, by omega, by omega⟩
  · cases h
end Go.Proofs.YtjneboajbmabbaaDoor.ref1

namespace Go.Proofs.YtjneboajbmabbaaDoor.ref1
open Go.RowKit Go.Own Go.Rw Go.SetL Go.Bits Go.Tz
set_option maxHeartbeats 1000000
set_option maxRecDepth 100000
attribute [local irreducible] beyond grow over

theorem nset_calls {xs ys : List W} (hx : xs.length = 16) (hy : ys.length = 16) (w : World) (hT : TzW w) :
    Calls Tryd.prog 44 #[.agg (rowW xs), .agg (rowW ys)] w fun e w' => e = .returned (.tuple #[.agg (rowW (rowOf (nextL (elems xs) (elems ys)).1)), .bool (nextL (elems xs) (elems ys)).2]) ∧ ∃ y, w' = beyond w y := by
  have HX := Lib.hid hx
  have HY := Lib.hid hy
  have HT := Lib.hid hT
  have HZ := Lib.hid (show (rowW xs).size = 16 by rw [rowW_size, hx])
  have HZ2 := Lib.hid (show (rowW ys).size = 16 by rw [rowW_size, hy])
  have HZF := Lib.hid (show (rowW (subR ys xs)).size = 16 by rw [rowW_size]; exact sub16_len hy hx)
  clear hx hy hT
  have K1 : BlkAt w.heap.size (rowW xs) 25 (((w.alloc (.cells (rowW xs) 25)).alloc (.cells (rowW ys) 25)).alloc (.cells #[.int .u64 0, .int .u64 0, .int .u64 0, .int .u64 0, .int .u64 0, .int .u64 0, .int .u64 0, .int .u64 0, .int .u64 0, .int .u64 0, .int .u64 0, .int .u64 0, .int .u64 0, .int .u64 0, .int .u64 0, .int .u64 0] 25)) := ⟨by simp [go_sem, inW]⟩
  have K2 : BlkAt (w.heap.size + 1) (rowW ys) 25 (((w.alloc (.cells (rowW xs) 25)).alloc (.cells (rowW ys) 25)).alloc (.cells #[.int .u64 0, .int .u64 0, .int .u64 0, .int .u64 0, .int .u64 0, .int .u64 0, .int .u64 0, .int .u64 0, .int .u64 0, .int .u64 0, .int .u64 0, .int .u64 0, .int .u64 0, .int .u64 0, .int .u64 0, .int .u64 0] 25)) := ⟨by simp [go_sem, inW]⟩
  have K3 : BlkAt (w.heap.size + 1 + 1) #[.int .u64 0, .int .u64 0, .int .u64 0, .int .u64 0, .int .u64 0, .int .u64 0, .int .u64 0, .int .u64 0, .int .u64 0, .int .u64 0, .int .u64 0, .int .u64 0, .int .u64 0, .int .u64 0, .int .u64 0, .int .u64 0] 25 (((w.alloc (.cells (rowW xs) 25)).alloc (.cells (rowW ys) 25)).alloc (.cells #[.int .u64 0, .int .u64 0, .int .u64 0, .int .u64 0, .int .u64 0, .int .u64 0, .int .u64 0, .int .u64 0, .int .u64 0, .int .u64 0, .int .u64 0, .int .u64 0, .int .u64 0, .int .u64 0, .int .u64 0, .int .u64 0] 25)) := ⟨by simp [go_sem, inW]⟩
  go_enter Tryd.func44, Tryd.ntmps44
  go_wp2_with (first | (refine wpList_load_any (by kernel_rfl) 25 (.tmp 2) rfl _ (rowW xs) 25 _ rfl (BlkAt.all (by first | (with_reducible assumption) | (refine BlkAt.below (by with_reducible assumption) ?_; exact (by repeat (first | assumption | exact Below.refl _ _ | exact below_beyond _ _ | refine Below.beyond ?_ (by (try simp [size_beyond]) <;> omega) _ | refine Below.drew ?_ | refine Go.Rw.below_drewN ?_ _ | refine Go.Rw.below_setRow ?_ (by (try simp [size_beyond]) <;> omega) _ | refine Below.alloc ?_ (by (try simp [size_beyond]) <;> omega) _ | refine Below.setCell ?_ (by (try simp [size_beyond]) <;> omega) _))))) Tryd.underlying25 rfl (by rw [HZ.out]; exact sInfo) ?_) | (refine wpList_load_any (by kernel_rfl) 25 (.tmp 3) rfl _ (rowW ys) 25 _ rfl (BlkAt.all (by first | (with_reducible assumption) | (refine BlkAt.below (by with_reducible assumption) ?_; exact (by repeat (first | assumption | exact Below.refl _ _ | exact below_beyond _ _ | refine Below.beyond ?_ (by (try simp [size_beyond]) <;> omega) _ | refine Below.drew ?_ | refine Go.Rw.below_drewN ?_ _ | refine Go.Rw.below_setRow ?_ (by (try simp [size_beyond]) <;> omega) _ | refine Below.alloc ?_ (by (try simp [size_beyond]) <;> omega) _ | refine Below.setCell ?_ (by (try simp [size_beyond]) <;> omega) _))))) Tryd.underlying25 rfl (by rw [HZ2.out]; exact sInfo) ?_))
  go_at_call 33
  refine (subset_calls HY.out HX.out _).mono ?_
  rintro e w1 ⟨rfl, y1, rfl⟩
  go_wp2_with (first
    | (refine wpList_store_fresh rfl 25 (.tmp 6) (.tmp 13) rfl (rowW (subR ys xs)) 25 _ _ rfl rfl rfl (by rw [HZF.out]; exact sInfo) (by rw [HZF.out] <;> rfl) (rowW_one _) ?_; intro wr hbel KF; have HWB : Below w.heap.size w wr := Below.trans (by repeat (first | assumption | exact Below.refl _ _ | exact below_beyond _ _ | refine Below.beyond ?_ (by (try simp [size_beyond]) <;> omega) _ | refine Below.drew ?_ | refine Go.Rw.below_drewN ?_ _ | refine Go.Rw.below_setRow ?_ (by (try simp [size_beyond]) <;> omega) _ | refine Below.alloc ?_ (by (try simp [size_beyond]) <;> omega) _ | refine Below.setCell ?_ (by (try simp [size_beyond]) <;> omega) _)) (Below.mono hbel (by simp [size_beyond] <;> omega)); have J1 := (BlkAt.below (K1.below (below_beyond _ y1)) hbel); have J2 := (BlkAt.below (K2.below (below_beyond _ y1)) hbel); have J3 := (BlkAt.below (K3.below (below_beyond _ y1)) hbel); have hws := HWB.size; clear hbel K1 K2 K3)
    | (refine wpList_load_any (by kernel_rfl) 25 (.tmp 2) rfl _ (rowW xs) 25 _ rfl (BlkAt.all (by first | (with_reducible assumption) | (refine BlkAt.below (by with_reducible assumption) ?_; exact (by repeat (first | assumption | exact Below.refl _ _ | exact below_beyond _ _ | refine Below.beyond ?_ (by (try simp [size_beyond]) <;> omega) _ | refine Below.drew ?_ | refine Go.Rw.below_drewN ?_ _ | refine Go.Rw.below_setRow ?_ (by (try simp [size_beyond]) <;> omega) _ | refine Below.alloc ?_ (by (try simp [size_beyond]) <;> omega) _ | refine Below.setCell ?_ (by (try simp [size_beyond]) <;> omega) _))))) Tryd.underlying25 rfl (by rw [HZ.out]; exact sInfo) ?_) | (refine wpList_load_any (by kernel_rfl) 25 (.tmp 3) rfl _ (rowW ys) 25 _ rfl (BlkAt.all (by first | (with_reducible assumption) | (refine BlkAt.below (by with_reducible assumption) ?_; exact (by repeat (first | assumption | exact Below.refl _ _ | exact below_beyond _ _ | refine Below.beyond ?_ (by (try simp [size_beyond]) <;> omega) _ | refine Below.drew ?_ | refine Go.Rw.below_drewN ?_ _ | refine Go.Rw.below_setRow ?_ (by (try simp [size_beyond]) <;> omega) _ | refine Below.alloc ?_ (by (try simp [size_beyond]) <;> omega) _ | refine Below.setCell ?_ (by (try simp [size_beyond]) <;> omega) _))))) Tryd.underlying25 rfl (by rw [HZ2.out]; exact sInfo) ?_))
  go_at_call 33
  refine (subset_calls HX.out HY.out _).mono ?_
  rintro e w1 ⟨rfl, y2, rfl⟩
  have hgf : w.heap.size + 3 ≤ (beyond (((w.alloc (.cells (rowW xs) 25)).alloc (.cells (rowW ys) 25)).alloc (.cells #[.int .u64 0, .int .u64 0, .int .u64 0, .int .u64 0, .int .u64 0, .int .u64 0, .int .u64 0, .int .u64 0, .int .u64 0, .int .u64 0, .int .u64 0, .int .u64 0, .int .u64 0, .int .u64 0, .int .u64 0, .int .u64 0] 25)) y1).heap.size := by rw [size_beyond]; simp
  generalize (beyond (((w.alloc (.cells (rowW xs) 25)).alloc (.cells (rowW ys) 25)).alloc (.cells #[.int .u64 0, .int .u64 0, .int .u64 0, .int .u64 0, .int .u64 0, .int .u64 0, .int .u64 0, .int .u64 0, .int .u64 0, .int .u64 0, .int .u64 0, .int .u64 0, .int .u64 0, .int .u64 0, .int .u64 0, .int .u64 0] 25)) y1).heap.size = gF at hgf KF ⊢
  go_wp2_with (fail)
  go_at_call 16
  refine (max_set (sub16_len HX.out HY.out) _).mono ?_
  rintro e w1 ⟨t, b, y3, rfl, rfl, hmax⟩
  have HMX := Lib.hid hmax; clear hmax
  cases b
  · have HF2 := Lib.hid (show free2 xs ys t false = subR ys xs from if_neg (by decide))
    have HZ6 := Lib.hid (show (rowW (free2 xs ys t false)).size = 16 by rw [rowW_size]; exact free2_len HX.out HY.out _ _)
    have KG : BlkAt gF (rowW (free2 xs ys t false)) 25 wr := by rw [HF2.out]; exact KF
    clear KF
    go_wp2_with ((refine wpList_load_any (by kernel_rfl) 25 (.tmp 6) rfl _ (rowW (free2 xs ys t false)) 25 _ rfl (BlkAt.all (by first | (with_reducible assumption) | (refine BlkAt.below (by with_reducible assumption) ?_; exact (by repeat (first | assumption | exact Below.refl _ _ | exact below_beyond _ _ | refine Below.beyond ?_ (by (try simp [size_beyond]) <;> omega) _ | refine Below.drew ?_ | refine Go.Rw.below_drewN ?_ _ | refine Go.Rw.below_setRow ?_ (by (try simp [size_beyond]) <;> omega) _ | refine Below.alloc ?_ (by (try simp [size_beyond]) <;> omega) _ | refine Below.setCell ?_ (by (try simp [size_beyond]) <;> omega) _))))) Tryd.underlying25 rfl (by rw [HZ6.out]; exact sInfo) ?_))
    go_at_call 15
    refine (min_set (free2_len HX.out HY.out t false) _ (HT.out.below (by repeat (first | assumption | exact Below.refl _ _ | exact below_beyond _ _ | refine Below.beyond ?_ (by (try simp [size_beyond]) <;> omega) _ | refine Below.drew ?_ | refine Go.Rw.below_drewN ?_ _ | refine Go.Rw.below_setRow ?_ (by (try simp [size_beyond]) <;> omega) _ | refine Below.alloc ?_ (by (try simp [size_beyond]) <;> omega) _ | refine Below.setCell ?_ (by (try simp [size_beyond]) <;> omega) _)))).mono ?_
    rintro e w1 ⟨n, b2, y4, rfl, rfl, hmin⟩
    have HMN := Lib.hid hmin; clear hmin
    cases b2
    · have HE := Lib.hid (next_no HX.out HY.out HMX.out HMN.out)
      go_wp2_with (refine wpList_store_over rfl 25 (.tmp 4) (.tmp 34) rfl #[.int .u64 0, .int .u64 0, .int .u64 0, .int .u64 0, .int .u64 0, .int .u64 0, .int .u64 0, .int .u64 0, .int .u64 0, .int .u64 0, .int .u64 0, .int .u64 0, .int .u64 0, .int .u64 0, .int .u64 0, .int .u64 0] 25 _ _ rfl (by first | (with_reducible assumption) | (refine BlkAt.below (by with_reducible assumption) ?_; exact (by repeat (first | assumption | exact Below.refl _ _ | exact below_beyond _ _ | refine Below.beyond ?_ (by (try simp [size_beyond]) <;> omega) _ | refine Below.drew ?_ | refine Go.Rw.below_drewN ?_ _ | refine Go.Rw.below_setRow ?_ (by (try simp [size_beyond]) <;> omega) _ | refine Below.alloc ?_ (by (try simp [size_beyond]) <;> omega) _ | refine Below.setCell ?_ (by (try simp [size_beyond]) <;> omega) _)))) rfl (by kernel_rfl) rfl (by kernel_rfl) ?_; intro wz hk KZ hbz; have HBZ := Lib.hid hbz; clear hk hbz)
      refine bodyPost_ret (results_block2 rfl _ _ (w.heap.size + 1 + 1) 25 #[.int .u64 0, .int .u64 0, .int .u64 0, .int .u64 0, .int .u64 0, .int .u64 0, .int .u64 0, .int .u64 0, .int .u64 0, .int .u64 0, .int .u64 0, .int .u64 0, .int .u64 0, .int .u64 0, .int .u64 0, .int .u64 0] _ _ rfl rfl KZ.all Tryd.underlying25 rfl (by kernel_rfl)) rfl ?_
      refine ⟨?_, beyond_of (Below.trans (by repeat (first | assumption | exact Below.refl _ _ | exact below_beyond _ _ | refine Below.beyond ?_ (by (try simp [size_beyond]) <;> omega) _ | refine Below.drew ?_ | refine Go.Rw.below_drewN ?_ _ | refine Go.Rw.below_setRow ?_ (by (try simp [size_beyond]) <;> omega) _ | refine Below.alloc ?_ (by (try simp [size_beyond]) <;> omega) _ | refine Below.setCell ?_ (by (try simp [size_beyond]) <;> omega) _)) (HBZ.out.mono (by omega)))⟩
      rw [HE.out]; rfl
    · have hnx := next_yes HX.out HY.out HMX.out HMN.out
      obtain ⟨k2, rfl⟩ := Int.eq_ofNat_of_zero_le hnx.2.2.1
      have hk2 : k2 < 1024 := by have := hnx.2.2.2; omega
      have HNX := Lib.hid hnx; clear hnx
      have HZR := Lib.hid (show (rowW (withS (subR xs (belowS (k2 : Int))) k2)).size = 16 by rw [rowW_size, withS_len]; exact sub16_len HX.out (belowS_len _))
      go_wp2
      refine wp_region_tail 6 (by kernel_rfl) (by kernel_rfl) (by kernel_rfl) ?_
      simp only [List.take_succ_cons, List.take_zero, List.drop_succ_cons, List.drop_zero]
      refine wpQuiet_load_row (by kernel_rfl) 25 (.tmp 2) rfl w.heap.size (rowW xs) 25 _ rfl (by rintro _ ⟨x, rfl⟩; exact (BlkAt.below (BlkAt.below J1 (by repeat (first | assumption | exact Below.refl _ _ | exact below_beyond _ _ | refine Below.beyond ?_ (by (try simp [size_beyond]) <;> omega) _ | refine Below.drew ?_ | refine Go.Rw.below_drewN ?_ _ | refine Go.Rw.below_setRow ?_ (by (try simp [size_beyond]) <;> omega) _ | refine Below.alloc ?_ (by (try simp [size_beyond]) <;> omega) _ | refine Below.setCell ?_ (by (try simp [size_beyond]) <;> omega) _))) (below_beyond _ _)).all) Tryd.underlying25 rfl (by rw [HZ.out]; exact sInfo) ?_
      simp only [Act.put, List.setIfInBounds_toArray, List.set_cons_succ, List.set_cons_zero]
      repeat (go_big_quiet_step (first | (go_at_call 23; exact quiet_beyond (below_set _ (by omega) (by omega) _)) | (go_at_call 33; exact quiet_beyond (subset_calls HX.out (belowS_len _) _)) | (go_at_call 25; exact quiet_beyond (wset_calls (sub16_len HX.out (belowS_len _)) _ _))))
      refine wpQuiet_nil ?_
      rintro _ ⟨yq, rfl⟩
      go_wp2_with (refine wpList_store_over rfl 25 (.tmp 4) (.tmp 40) rfl (rowW (withS (subR xs (belowS (k2 : Int))) k2)) 25 _ _ rfl (by first | (with_reducible assumption) | (refine BlkAt.below (by with_reducible assumption) ?_; exact (by repeat (first | assumption | exact Below.refl _ _ | exact below_beyond _ _ | refine Below.beyond ?_ (by (try simp [size_beyond]) <;> omega) _ | refine Below.drew ?_ | refine Go.Rw.below_drewN ?_ _ | refine Go.Rw.below_setRow ?_ (by (try simp [size_beyond]) <;> omega) _ | refine Below.alloc ?_ (by (try simp [size_beyond]) <;> omega) _ | refine Below.setCell ?_ (by (try simp [size_beyond]) <;> omega) _)))) rfl (by rw [HZR.out]; exact sInfo) (by rw [HZR.out]; rfl) (rowW_one _) ?_; intro wz hk KZ hbz; have HBZ := Lib.hid hbz; clear hk hbz)
      refine bodyPost_ret (results_block2 rfl _ _ (w.heap.size + 1 + 1) 25 (rowW (withS (subR xs (belowS (k2 : Int))) k2)) _ _ rfl rfl KZ.all Tryd.underlying25 rfl (by rw [HZR.out]; exact sInfo)) rfl ?_
      refine ⟨?_, beyond_of (Below.trans (by repeat (first | assumption | exact Below.refl _ _ | exact below_beyond _ _ | refine Below.beyond ?_ (by (try simp [size_beyond]) <;> omega) _ | refine Below.drew ?_ | refine Go.Rw.below_drewN ?_ _ | refine Go.Rw.below_setRow ?_ (by (try simp [size_beyond]) <;> omega) _ | refine Below.alloc ?_ (by (try simp [size_beyond]) <;> omega) _ | refine Below.setCell ?_ (by (try simp [size_beyond]) <;> omega) _)) (HBZ.out.mono (by omega)))⟩
      rw [HNX.out.1, ← HNX.out.2.1]
      rfl
  · obtain ⟨k, rfl, hk⟩ : ∃ k : Nat, t = k ∧ k < 1024 := by
      rcases HMX.out with ⟨_, k, h1, h2, _⟩ | ⟨h, _⟩
      · exact ⟨k, h1, h2⟩
      · cases h
    have HF2 := Lib.hid (show free2 xs ys k true = subR (subR ys xs) (belowS ((k : Int) + 1)) from if_pos rfl)
    have HZ3 := Lib.hid (show (rowW (subR (subR ys xs) (belowS ((k : Int) + 1)))).size = 16 by rw [rowW_size]; exact sub16_len (sub16_len HY.out HX.out) (belowS_len _))
    have HZ6 := Lib.hid (show (rowW (free2 xs ys k true)).size = 16 by rw [rowW_size]; exact free2_len HX.out HY.out _ _)
    go_wp2
    refine wp_region_tail 5 (by kernel_rfl) (by kernel_rfl) (by kernel_rfl) ?_
    simp only [List.take_succ_cons, List.take_zero, List.drop_succ_cons, List.drop_zero]
    refine wpQuiet_load_row (by kernel_rfl) 25 (.tmp 6) rfl gF (rowW (subR ys xs)) 25 _ rfl (by rintro _ ⟨x, rfl⟩; exact (BlkAt.below (BlkAt.below KF (by repeat (first | assumption | exact Below.refl _ _ | exact below_beyond _ _ | refine Below.beyond ?_ (by (try simp [size_beyond]) <;> omega) _ | refine Below.drew ?_ | refine Go.Rw.below_drewN ?_ _ | refine Go.Rw.below_setRow ?_ (by (try simp [size_beyond]) <;> omega) _ | refine Below.alloc ?_ (by (try simp [size_beyond]) <;> omega) _ | refine Below.setCell ?_ (by (try simp [size_beyond]) <;> omega) _))) (below_beyond _ _)).all) Tryd.underlying25 rfl (by rw [HZF.out]; exact sInfo) ?_
    simp only [Act.put, List.setIfInBounds_toArray, List.set_cons_succ, List.set_cons_zero]
    repeat (go_big_quiet_step (first | (go_at_call 23; exact quiet_beyond (below_set _ (by omega) (by omega) _)) | (go_at_call 33; exact quiet_beyond (subset_calls (sub16_len HY.out HX.out) (belowS_len _) _))))
    refine wpQuiet_nil ?_
    rintro _ ⟨yq, rfl⟩
    go_wp2_with (first | (refine wpList_store_over rfl 25 (.tmp 6) (.tmp 26) rfl (rowW (subR (subR ys xs) (belowS ((k : Int) + 1)))) 25 _ _ rfl (by first | (with_reducible assumption) | (refine BlkAt.below (by with_reducible assumption) ?_; exact (by repeat (first | assumption | exact Below.refl _ _ | exact below_beyond _ _ | refine Below.beyond ?_ (by (try simp [size_beyond]) <;> omega) _ | refine Below.drew ?_ | refine Go.Rw.below_drewN ?_ _ | refine Go.Rw.below_setRow ?_ (by (try simp [size_beyond]) <;> omega) _ | refine Below.alloc ?_ (by (try simp [size_beyond]) <;> omega) _ | refine Below.setCell ?_ (by (try simp [size_beyond]) <;> omega) _)))) rfl (by rw [HZ3.out]; exact sInfo) (by rw [HZ3.out, HZF.out]) (rowW_one _) ?_; intro wq hkeep KG0 hbq; have HWQ : Below w.heap.size w wq := Below.trans (by repeat (first | assumption | exact Below.refl _ _ | exact below_beyond _ _ | refine Below.beyond ?_ (by (try simp [size_beyond]) <;> omega) _ | refine Below.drew ?_ | refine Go.Rw.below_drewN ?_ _ | refine Go.Rw.below_setRow ?_ (by (try simp [size_beyond]) <;> omega) _ | refine Below.alloc ?_ (by (try simp [size_beyond]) <;> omega) _ | refine Below.setCell ?_ (by (try simp [size_beyond]) <;> omega) _)) (hbq.mono (by omega)); have I1 := hkeep _ _ _ (by omega) (BlkAt.below J1 (by repeat (first | assumption | exact Below.refl _ _ | exact below_beyond _ _ | refine Below.beyond ?_ (by (try simp [size_beyond]) <;> omega) _ | refine Below.drew ?_ | refine Go.Rw.below_drewN ?_ _ | refine Go.Rw.below_setRow ?_ (by (try simp [size_beyond]) <;> omega) _ | refine Below.alloc ?_ (by (try simp [size_beyond]) <;> omega) _ | refine Below.setCell ?_ (by (try simp [size_beyond]) <;> omega) _))); have I3 := hkeep _ _ _ (by omega) (BlkAt.below J3 (by repeat (first | assumption | exact Below.refl _ _ | exact below_beyond _ _ | refine Below.beyond ?_ (by (try simp [size_beyond]) <;> omega) _ | refine Below.drew ?_ | refine Go.Rw.below_drewN ?_ _ | refine Go.Rw.below_setRow ?_ (by (try simp [size_beyond]) <;> omega) _ | refine Below.alloc ?_ (by (try simp [size_beyond]) <;> omega) _ | refine Below.setCell ?_ (by (try simp [size_beyond]) <;> omega) _))); have hwq := HWQ.size; have KG : BlkAt gF (rowW (free2 xs ys k true)) 25 wq := (by rw [HF2.out]; exact KG0); clear hkeep hbq KG0 KF J1 J2 J3) | (refine wpList_load_any (by kernel_rfl) 25 (.tmp 6) rfl _ (rowW (free2 xs ys k true)) 25 _ rfl (BlkAt.all (by first | (with_reducible assumption) | (refine BlkAt.below (by with_reducible assumption) ?_; exact (by repeat (first | assumption | exact Below.refl _ _ | exact below_beyond _ _ | refine Below.beyond ?_ (by (try simp [size_beyond]) <;> omega) _ | refine Below.drew ?_ | refine Go.Rw.below_drewN ?_ _ | refine Go.Rw.below_setRow ?_ (by (try simp [size_beyond]) <;> omega) _ | refine Below.alloc ?_ (by (try simp [size_beyond]) <;> omega) _ | refine Below.setCell ?_ (by (try simp [size_beyond]) <;> omega) _))))) Tryd.underlying25 rfl (by rw [HZ6.out]; exact sInfo) ?_))
    go_at_call 15
    refine (min_set (free2_len HX.out HY.out k true) _ (HT.out.below (by repeat (first | assumption | exact Below.refl _ _ | exact below_beyond _ _ | refine Below.beyond ?_ (by (try simp [size_beyond]) <;> omega) _ | refine Below.drew ?_ | refine Go.Rw.below_drewN ?_ _ | refine Go.Rw.below_setRow ?_ (by (try simp [size_beyond]) <;> omega) _ | refine Below.alloc ?_ (by (try simp [size_beyond]) <;> omega) _ | refine Below.setCell ?_ (by (try simp [size_beyond]) <;> omega) _)))).mono ?_
    rintro e w1 ⟨n, b2, y4, rfl, rfl, hmin⟩
    have HMN := Lib.hid hmin; clear hmin
    cases b2
    · have HE := Lib.hid (next_no HX.out HY.out HMX.out HMN.out)
      go_wp2_with (refine wpList_store_over rfl 25 (.tmp 4) (.tmp 34) rfl #[.int .u64 0, .int .u64 0, .int .u64 0, .int .u64 0, .int .u64 0, .int .u64 0, .int .u64 0, .int .u64 0, .int .u64 0, .int .u64 0, .int .u64 0, .int .u64 0, .int .u64 0, .int .u64 0, .int .u64 0, .int .u64 0] 25 _ _ rfl (by first | (with_reducible assumption) | (refine BlkAt.below (by with_reducible assumption) ?_; exact (by repeat (first | assumption | exact Below.refl _ _ | exact below_beyond _ _ | refine Below.beyond ?_ (by (try simp [size_beyond]) <;> omega) _ | refine Below.drew ?_ | refine Go.Rw.below_drewN ?_ _ | refine Go.Rw.below_setRow ?_ (by (try simp [size_beyond]) <;> omega) _ | refine Below.alloc ?_ (by (try simp [size_beyond]) <;> omega) _ | refine Below.setCell ?_ (by (try simp [size_beyond]) <;> omega) _)))) rfl (by kernel_rfl) rfl (by kernel_rfl) ?_; intro wz hk KZ hbz; have HBZ := Lib.hid hbz; clear hk hbz)
      refine bodyPost_ret (results_block2 rfl _ _ (w.heap.size + 1 + 1) 25 #[.int .u64 0, .int .u64 0, .int .u64 0, .int .u64 0, .int .u64 0, .int .u64 0, .int .u64 0, .int .u64 0, .int .u64 0, .int .u64 0, .int .u64 0, .int .u64 0, .int .u64 0, .int .u64 0, .int .u64 0, .int .u64 0] _ _ rfl rfl KZ.all Tryd.underlying25 rfl (by kernel_rfl)) rfl ?_
      refine ⟨?_, beyond_of (Below.trans (by repeat (first | assumption | exact Below.refl _ _ | exact below_beyond _ _ | refine Below.beyond ?_ (by (try simp [size_beyond]) <;> omega) _ | refine Below.drew ?_ | refine Go.Rw.below_drewN ?_ _ | refine Go.Rw.below_setRow ?_ (by (try simp [size_beyond]) <;> omega) _ | refine Below.alloc ?_ (by (try simp [size_beyond]) <;> omega) _ | refine Below.setCell ?_ (by (try simp [size_beyond]) <;> omega) _)) (HBZ.out.mono (by omega)))⟩
      rw [HE.out]; rfl
    · have hnx := next_yes HX.out HY.out HMX.out HMN.out
      obtain ⟨k2, rfl⟩ := Int.eq_ofNat_of_zero_le hnx.2.2.1
      have hk2 : k2 < 1024 := by have := hnx.2.2.2; omega
      have HNX := Lib.hid hnx; clear hnx
      have HZR := Lib.hid (show (rowW (withS (subR xs (belowS (k2 : Int))) k2)).size = 16 by rw [rowW_size, withS_len]; exact sub16_len HX.out (belowS_len _))
      go_wp2
      refine wp_region_tail 6 (by kernel_rfl) (by kernel_rfl) (by kernel_rfl) ?_
      simp only [List.take_succ_cons, List.take_zero, List.drop_succ_cons, List.drop_zero]
      refine wpQuiet_load_row (by kernel_rfl) 25 (.tmp 2) rfl w.heap.size (rowW xs) 25 _ rfl (by rintro _ ⟨x, rfl⟩; exact (BlkAt.below (BlkAt.below I1 (by repeat (first | assumption | exact Below.refl _ _ | exact below_beyond _ _ | refine Below.beyond ?_ (by (try simp [size_beyond]) <;> omega) _ | refine Below.drew ?_ | refine Go.Rw.below_drewN ?_ _ | refine Go.Rw.below_setRow ?_ (by (try simp [size_beyond]) <;> omega) _ | refine Below.alloc ?_ (by (try simp [size_beyond]) <;> omega) _ | refine Below.setCell ?_ (by (try simp [size_beyond]) <;> omega) _))) (below_beyond _ _)).all) Tryd.underlying25 rfl (by rw [HZ.out]; exact sInfo) ?_
      simp only [Act.put, List.setIfInBounds_toArray, List.set_cons_succ, List.set_cons_zero]
      repeat (go_big_quiet_step (first | (go_at_call 23; exact quiet_beyond (below_set _ (by omega) (by omega) _)) | (go_at_call 33; exact quiet_beyond (subset_calls HX.out (belowS_len _) _)) | (go_at_call 25; exact quiet_beyond (wset_calls (sub16_len HX.out (belowS_len _)) _ _))))
      refine wpQuiet_nil ?_
      rintro _ ⟨yq, rfl⟩
      go_wp2_with (refine wpList_store_over rfl 25 (.tmp 4) (.tmp 40) rfl (rowW (withS (subR xs (belowS (k2 : Int))) k2)) 25 _ _ rfl (by first | (with_reducible assumption) | (refine BlkAt.below (by with_reducible assumption) ?_; exact (by repeat (first | assumption | exact Below.refl _ _ | exact below_beyond _ _ | refine Below.beyond ?_ (by (try simp [size_beyond]) <;> omega) _ | refine Below.drew ?_ | refine Go.Rw.below_drewN ?_ _ | refine Go.Rw.below_setRow ?_ (by (try simp [size_beyond]) <;> omega) _ | refine Below.alloc ?_ (by (try simp [size_beyond]) <;> omega) _ | refine Below.setCell ?_ (by (try simp [size_beyond]) <;> omega) _)))) rfl (by rw [HZR.out]; exact sInfo) (by rw [HZR.out]; rfl) (rowW_one _) ?_; intro wz hk KZ hbz; have HBZ := Lib.hid hbz; clear hk hbz)
      refine bodyPost_ret (results_block2 rfl _ _ (w.heap.size + 1 + 1) 25 (rowW (withS (subR xs (belowS (k2 : Int))) k2)) _ _ rfl rfl KZ.all Tryd.underlying25 rfl (by rw [HZR.out]; exact sInfo)) rfl ?_
      refine ⟨?_, beyond_of (Below.trans (by repeat (first | assumption | exact Below.refl _ _ | exact below_beyond _ _ | refine Below.beyond ?_ (by (try simp [size_beyond]) <;> omega) _ | refine Below.drew ?_ | refine Go.Rw.below_drewN ?_ _ | refine Go.Rw.below_setRow ?_ (by (try simp [size_beyond]) <;> omega) _ | refine Below.alloc ?_ (by (try simp [size_beyond]) <;> omega) _ | refine Below.setCell ?_ (by (try simp [size_beyond]) <;> omega) _)) (HBZ.out.mono (by omega)))⟩
      rw [HNX.out.1, ← HNX.out.2.1]
      rfl
theorem rnext_at {q q2 : Option Addr} {m c m2 c2 : Nat} {xs ys : List W} {w : World} (h : IsAt q m c (elems xs) w) (h2 : IsAt q2 m2 c2 (elems ys) w) :
    Calls Tryd.prog 45 #[.slice q m c, .slice q2 m2 c2] w (RetN w (nextL (elems xs) (elems ys)).1 (nextL (elems xs) (elems ys)).2) :=
  rnext_calls h h2 (by have h1 := h.all.1; have h3 := ofP_len (bitAt xs); have h4 : (elems xs).length ≤ 1024 := h3; omega)
theorem from_at {q : Option Addr} {m c : Nat} {l : List Int} {w : World} (h : IsAt q m c l w) : Calls Tryd.prog 46 #[.slice q m c] w fun e w' => e = .returned (.agg (rowW (rowOf l))) ∧ ∃ y, w' = beyond w y :=
  from_set h.all.1 (by have := h.all.2.1; omega) h.all.2.2.2.2
/-- two rows compared, in a region that draws its order -/
theorem wpQuiet_eqRow {P : Program} {ops : Array Oper} {C : World → Prop} {Q : Act → Prop} {a : Act} {o : Oper} {rest : List Oper} (hw : Region.wanted o (yielded ops a.tmps) = true) {t r e : TypeId} {n : Nat} (x y : Operand) (ho : o.op = .binOp .eql t x y r)
    (hu : P.underlying t = some (.array n e)) (he : P.underlying e = some (.int .u64)) (hi : (P.info? e).map (·.size) = some 1) (hg : P.eqGuardType P.depth t = false)
    {xs ys : List W} (hx : xs.length = n) (hy : ys.length = n) (ex : a.eval x = .agg (rowW xs)) (ey : a.eval y = .agg (rowW ys))
    (hk : wpQuiet P ops C Q rest (a.put o.dst (.bool (decide (xs = ys))))) : wpQuiet P ops C Q (o :: rest) a :=
  BigFrame.wpQuiet_want hw fun K hK => ⟨_, fun w hC => by
    unfold Oper.quietAt execOp
    simp only [ho, ex, ey]
    rw [Sem.run_bind, eq_run hu he hi hg hx hy x y w]
    exact ⟨rfl, rfl⟩, hK _ hk⟩
end Go.Proofs.YtjneboajbmabbaaDoor.ref1

namespace Go.Proofs.YtjneboajbmabbaaDoor.ref1
open Go.RowKit Go.Own Go.Rw Go.SetL Go.Bits Go.Tz Go.SetT
set_option maxHeartbeats 1000000
set_option maxRecDepth 100000

def dg (n : Nat) : UInt8 := UInt8.ofNat (48 + n)
theorem byte_conv (n : Nat) (h : n < 10) (W : World) (g : Nat) (hg : blockOf W g = some (.cells #[.int .u8 (48 + (n : Int))] 5 (0, 0))) :
    (convert 81 9 (.slice (some ⟨g, 0, none⟩) 1 1)).run Tryd.prog W = .ok (.string ⟨#[dg n]⟩) W := by
  refine run_convert_bytes_back W 81 9 5 ⟨g, 0, none⟩ 1 [dg n] Tryd.underlying81 Tryd.underlying5 Tryd.underlying9 fun j hj => ?_
  obtain rfl : j = 0 := by simpa using hj
  have : (dg n).toNat = 48 + n := by unfold dg; simp; omega
  simp [World.cell?, Addr.add, show W.heap[g]? = _ from hg, this]
theorem wrap64_eq (x : Int) (h0 : -9223372036854775808 ≤ x) (h1 : x ≤ 9223372036854775807) : IntKind.i64.wrap x = x := by rw [IntKind.wrap_i64]; omega
theorem digits_calls : ∀ (f n : Nat), n < 2 ^ f → n < 1000000 → ∀ w : World, Calls Tryd.prog 61 #[.int .i64 n] w fun e w' => e = .returned (.string ⟨(Lib.decDigits n).toArray⟩) ∧ ∃ y, w' = beyond w y
  | 0, n, h, hn, w => by
    obtain rfl : n = 0 := by omega
    have hcv := byte_conv 0 (by omega) (w.alloc (.cells #[.int .u8 48] 5)) w.heap.size (blockOf_alloc_at _ _ _ rfl)
    go_enter Tryd.func61, Tryd.ntmps61
    go_wp2
    go_ret
    refine ⟨?_, beyond_of (by repeat (first | assumption | exact Below.refl _ _ | exact below_beyond _ _ | refine Below.beyond ?_ (by (try simp [size_beyond]) <;> omega) _ | refine Below.drew ?_ | refine Go.Rw.below_drewN ?_ _ | refine Go.Rw.below_setRow ?_ (by (try simp [size_beyond]) <;> omega) _ | refine Below.alloc ?_ (by (try simp [size_beyond]) <;> omega) _ | refine Below.setCell ?_ (by (try simp [size_beyond]) <;> omega) _))⟩
    rw [show Lib.decDigits 0 = [dg 0] by unfold Lib.decDigits; rfl]
    rfl
  | f + 1, n, h, hn, w => by
    by_cases hlt : n < 10
    · have hcv := byte_conv n hlt (w.alloc (.cells #[.int .u8 (48 + (n : Int))] 5)) w.heap.size (blockOf_alloc_at _ _ _ rfl)
      have HD := Lib.hid (show Lib.decDigits n = [dg n] by unfold Lib.decDigits; rw [dif_pos hlt]; rfl)
      have hl : (n : Int) < 10 := by omega
      go_enter Tryd.func61, Tryd.ntmps61
      go_wp2
      go_ret
      refine ⟨?_, beyond_of (by repeat (first | assumption | exact Below.refl _ _ | exact below_beyond _ _ | refine Below.beyond ?_ (by (try simp [size_beyond]) <;> omega) _ | refine Below.drew ?_ | refine Go.Rw.below_drewN ?_ _ | refine Go.Rw.below_setRow ?_ (by (try simp [size_beyond]) <;> omega) _ | refine Below.alloc ?_ (by (try simp [size_beyond]) <;> omega) _ | refine Below.setCell ?_ (by (try simp [size_beyond]) <;> omega) _))⟩
      rw [HD.out]; rfl
    · have HC := Lib.hid (digits_calls f (n / 10) (by rw [Nat.pow_succ] at h; omega) (by omega))
      have hl : ¬ (n : Int) < 10 := by omega
      have HD := Lib.hid (show Lib.decDigits n = Lib.decDigits (n / 10) ++ [dg (n % 10)] by rw [Lib.decDigits, dif_neg hlt]; rfl)
      have HB := Lib.hid (byte_conv (n % 10) (by omega))
      have e1 : IntKind.i64.wrap ((n : Int) / 10) = ((n / 10 : Nat) : Int) := by rw [wrap64_eq] <;> omega
      have e2 : IntKind.u8.wrap (IntKind.i64.wrap (48 + (n : Int).tmod 10)) = 48 + ((n % 10 : Nat) : Int) := by
        rw [Int.tmod_eq_emod_of_nonneg (by omega), wrap64_eq _ (by omega) (by omega)]
        show (48 + (n : Int) % 10) % 256 = _
        omega
      have HC2 : Hid (∀ w : World, Calls Tryd.prog 61 #[.int .i64 (IntKind.i64.wrap ((n : Int) / 10))] w fun e w' => e = .returned (.string ⟨(Lib.decDigits (n / 10)).toArray⟩) ∧ ∃ y, w' = beyond w y) := Lib.hid (by rw [e1]; exact HC.out)
      have HB2 : Hid (∀ (W : World) (g : Nat), blockOf W g = some (.cells #[.int .u8 (IntKind.u8.wrap (IntKind.i64.wrap (48 + (n : Int).tmod 10)))] 5 (0, 0)) → (convert 81 9 (.slice (some ⟨g, 0, none⟩) 1 1)).run Tryd.prog W = .ok (.string ⟨#[dg (n % 10)]⟩) W) := Lib.hid (by rw [e2]; exact HB.out)
      clear e1 e2
      have hcv1 : ∀ y, (convert 81 9 (.slice (some ⟨(beyond w.drew y).heap.size, 0, none⟩) 1 1)).run Tryd.prog ((beyond w.drew y).alloc (.cells #[.int .u8 (IntKind.u8.wrap (IntKind.i64.wrap (48 + (n : Int).tmod 10)))] 5)) = .ok (.string ⟨#[dg (n % 10)]⟩) ((beyond w.drew y).alloc (.cells #[.int .u8 (IntKind.u8.wrap (IntKind.i64.wrap (48 + (n : Int).tmod 10)))] 5)) := fun y => HB2.out _ _ (blockOf_alloc_at _ _ _ rfl)
      have hb0 : blockOf ((w.alloc (.cells #[.int .u8 (IntKind.u8.wrap (IntKind.i64.wrap (48 + (n : Int).tmod 10)))] 5)).drew) w.heap.size = some (.cells #[.int .u8 (IntKind.u8.wrap (IntKind.i64.wrap (48 + (n : Int).tmod 10)))] 5 (0, 0)) := blockOf_alloc_at _ _ _ rfl
      have hcv2 := HB2.out _ _ hb0
      have hcv3 : ∀ y, (convert 81 9 (.slice (some ⟨w.heap.size, 0, none⟩) 1 1)).run Tryd.prog (beyond ((w.alloc (.cells #[.int .u8 (IntKind.u8.wrap (IntKind.i64.wrap (48 + (n : Int).tmod 10)))] 5)).drew) y) = .ok (.string ⟨#[dg (n % 10)]⟩) (beyond ((w.alloc (.cells #[.int .u8 (IntKind.u8.wrap (IntKind.i64.wrap (48 + (n : Int).tmod 10)))] 5)).drew) y) := fun y => HB2.out _ _ (((below_beyond _ _).block w.heap.size (by show _ < (World.alloc _ _).heap.size; rw [World.size_alloc]; omega)).trans hb0)
      clear hb0
      have HL := dec_len 5 (n / 10) (by omega)
      have hL1 : ¬ ((ByteArray.mk (Lib.decDigits (n / 10)).toArray).size + (ByteArray.mk #[dg (n % 10)]).size > 9223372036854775807) := by simp [ByteArray.size]; omega
      clear HL
      go_enter Tryd.func61, Tryd.ntmps61
      go_wp2
      go_region_with (go_at_call 61; refine (HC2.out _).mono ?_; rintro e w1 ⟨rfl, y1, rfl⟩)
      all_goals (
        go_wp2
        go_ret
        refine ⟨?_, beyond_of (by repeat (first | assumption | exact Below.refl _ _ | exact below_beyond _ _ | refine Below.beyond ?_ (by (try simp [size_beyond]) <;> omega) _ | refine Below.drew ?_ | refine Go.Rw.below_drewN ?_ _ | refine Go.Rw.below_setRow ?_ (by (try simp [size_beyond]) <;> omega) _ | refine Below.alloc ?_ (by (try simp [size_beyond]) <;> omega) _ | refine Below.setCell ?_ (by (try simp [size_beyond]) <;> omega) _))⟩
        rw [HD.out, ByteArray.mk_append_mk]
        rfl)
end Go.Proofs.YtjneboajbmabbaaDoor.ref1

namespace Go.Proofs.YtjneboajbmabbaaDoor.ref1
open Go.RowKit Go.Own Go.Rw Go.SetL Go.Bits Go.Tz Go.SetT
set_option maxHeartbeats 1000000
set_option maxRecDepth 100000

theorem mk_size (l : List UInt8) : (ByteArray.mk l.toArray).size = l.length := by simp [ByteArray.size]
theorem textR_calls {q : Option Addr} {m c : Nat} {l : List Int} {w : World} (hm : m = l.length) (hb : m ≤ 1024) (hl : ∀ x ∈ l, 0 ≤ x ∧ x < 1024) (h : Reads w q l) :
    Calls Tryd.prog 51 #[.slice q m c] w fun e w' => e = .returned (.string ⟨(textL l).toArray⟩) ∧ ∃ y, w' = beyond w y := by
  have HR := Lib.hid h; clear h
  have HM := Lib.hid hm; clear hm
  have HG := Lib.hid hl; clear hl
  go_enter Tryd.func51, Tryd.ntmps51
  go_wp2
  go_loopw [3, 4] (fun v i wr => ∃ k : Nat, k ≤ m ∧ i = .int .i64 k ∧ v = .string ⟨(strL (l.take k)).toArray⟩ ∧ ∃ y, wr = beyond w y) (fun _ i _ => m - (intOf i).toNat)
  case atStart => exact ⟨0, Nat.zero_le _, rfl, by simp [strL], beyond_of (by repeat (first | assumption | exact Below.refl _ _ | exact below_beyond _ _ | refine Below.beyond ?_ (by (try simp [size_beyond]) <;> omega) _ | refine Below.drew ?_ | refine Go.Rw.below_drewN ?_ _ | refine Go.Rw.below_setRow ?_ (by (try simp [size_beyond]) <;> omega) _ | refine Below.alloc ?_ (by (try simp [size_beyond]) <;> omega) _ | refine Below.setCell ?_ (by (try simp [size_beyond]) <;> omega) _))⟩
  case round =>
    obtain ⟨k, hk, rfl, rfl, y, rfl⟩ := hrel
    have hlen := strL_len (l := l.take k) (fun x hx => HG.out x (List.mem_of_mem_take hx))
    rw [List.length_take] at hlen
    have HL := Lib.hid (show (strL (l.take k)).length ≤ 6000 by omega)
    clear hlen
    by_cases hlt : k < m
    · obtain ⟨b, off, x, rfl, hx, hbw, hc⟩ := (HR.out.below (below_beyond w y)).at (k := k) (by rw [← HM.out]; exact hlt)
      obtain ⟨hx0, hx1⟩ := HG.out x (List.mem_of_getElem? hx)
      obtain ⟨u, rfl⟩ := Int.eq_ofNat_of_zero_le hx0
      have HX := Lib.hid hx; clear hx
      have HD := Lib.hid (digits_calls 10 u (by omega) (by omega))
      have hd4 := dec_len 3 u (by omega)
      have HS := Lib.hid (show strL (l.take (k + 1)) = strStep (strL (l.take k)) (u : Int) by rw [List.take_add_one, HX.out]; exact strL_snoc _ _)
      have HK := Lib.hid (show 1 < (strL (l.take k)).length ↔ 0 < k by
        constructor
        · intro h
          rcases Nat.eq_zero_or_pos k with rfl | h0
          · simp [strL] at h
          · exact h0
        · intro h
          refine (strL_one (l.take k)).2 fun e => ?_
          have := congrArg List.length e
          rw [List.length_take, ← HM.out] at this
          simp at this; omega)
      have hA : ¬ ((ByteArray.mk (strL (l.take k)).toArray).size + (ByteArray.mk #[32]).size > 9223372036854775807) := by simp only [mk_size, List.length_cons, List.length_nil]; have := HL.out; omega
      have hB : ¬ ((ByteArray.mk (strL (l.take k)).toArray).size + (ByteArray.mk (Lib.decDigits u).toArray).size > 9223372036854775807) := by rw [mk_size, mk_size]; have := HL.out; omega
      have hC : ¬ ((ByteArray.mk (strL (l.take k)).toArray ++ ByteArray.mk #[32]).size + (ByteArray.mk (Lib.decDigits u).toArray).size > 9223372036854775807) := by simp only [ByteArray.size_append, mk_size, List.length_cons, List.length_nil]; have := HL.out; omega
      clear hd4
      by_cases hk0 : 0 < k
      · have e : strL (l.take (k + 1)) = (strL (l.take k) ++ [32]) ++ Lib.decDigits u := by rw [HS.out, ← itoa_nat]; unfold strStep; rw [if_pos (HK.out.2 hk0)]
        have HE := Lib.hid e; clear e
        go_wp2_with (go_at_call 61; refine (HD.out _).mono ?_; rintro e w1 ⟨rfl, y1, rfl⟩)
        go_roundw
        case rel => exact ⟨k + 1, by omega, by go_num, by rw [HE.out, ByteArray.mk_append_mk, ByteArray.mk_append_mk], beyond_of (by repeat (first | assumption | exact Below.refl _ _ | exact below_beyond _ _ | refine Below.beyond ?_ (by (try simp [size_beyond]) <;> omega) _ | refine Below.drew ?_ | refine Go.Rw.below_drewN ?_ _ | refine Go.Rw.below_setRow ?_ (by (try simp [size_beyond]) <;> omega) _ | refine Below.alloc ?_ (by (try simp [size_beyond]) <;> omega) _ | refine Below.setCell ?_ (by (try simp [size_beyond]) <;> omega) _))⟩
        case measure => simp [intOf]; omega
      · have e : strL (l.take (k + 1)) = strL (l.take k) ++ Lib.decDigits u := by rw [HS.out, ← itoa_nat]; unfold strStep; rw [if_neg (fun h => hk0 (HK.out.1 h))]
        have HE := Lib.hid e; clear e
        go_wp2_with (go_at_call 61; refine (HD.out _).mono ?_; rintro e w1 ⟨rfl, y1, rfl⟩)
        go_roundw
        case rel => exact ⟨k + 1, by omega, by go_num, by rw [HE.out, ByteArray.mk_append_mk], beyond_of (by repeat (first | assumption | exact Below.refl _ _ | exact below_beyond _ _ | refine Below.beyond ?_ (by (try simp [size_beyond]) <;> omega) _ | refine Below.drew ?_ | refine Go.Rw.below_drewN ?_ _ | refine Go.Rw.below_setRow ?_ (by (try simp [size_beyond]) <;> omega) _ | refine Below.alloc ?_ (by (try simp [size_beyond]) <;> omega) _ | refine Below.setCell ?_ (by (try simp [size_beyond]) <;> omega) _))⟩
        case measure => simp [intOf]; omega
    · obtain rfl : k = m := by omega
      have hT : l.take k = l := List.take_of_length_le (by rw [← HM.out]; exact Nat.le_refl _)
      rw [hT] at HL ⊢
      have HT2 := Lib.hid hT; clear hT
      have hA : ¬ ((ByteArray.mk (strL l).toArray).size + (ByteArray.mk #[125]).size > 9223372036854775807) := by simp only [mk_size, List.length_cons, List.length_nil]; have := HL.out; omega
      go_wp2
      go_ret
      refine ⟨?_, _, rfl⟩
      unfold textL
      rw [← ByteArray.mk_append_mk]
      rfl
end Go.Proofs.YtjneboajbmabbaaDoor.ref1

namespace Go.Proofs.YtjneboajbmabbaaDoor.ref1
open Go.RowKit Go.Own Go.Rw Go.SetT Go.PlainAid
set_option maxHeartbeats 1000000
set_option maxRecDepth 100000

theorem number_calls (s : ByteArray) (at_ : Nat) (hs : s.size ≤ 1000000) (ha : at_ ≤ s.size) (w : World) :
    Calls Tryd.prog 60 #[.string s, .int .i64 at_] w fun e w' => ∃ en, EndsAt (bt s) s.size at_ en ∧ e = .returned (.tuple #[.int .i64 (numRes (bt s) at_ en).1, .int .i64 en, .int .i64 (numRes (bt s) at_ en).2]) ∧ w = w' := by
  have hb := get_bt s
  go_enter Tryd.func60, Tryd.ntmps60
  go_wp2
  go_loop [7, 8] (fun v i => ∃ k : Nat, at_ + k ≤ s.size ∧ i = .int .i64 ((at_ + k : Nat) : Int) ∧ v = .int .i64 (min (num (bt s) at_ k) 1024) ∧ Hid (∀ j, j < k → isDg (bt s) s.size (at_ + j))) (fun _ i => s.size - (intOf i).toNat)
  case atStart => exact ⟨0, by omega, rfl, rfl, Lib.hid (fun j hj => absurd hj (by omega))⟩
  case round =>
    obtain ⟨k, hk, rfl, rfl, HG⟩ := hrel
    have hn0 := num_nonneg HG.out
    obtain ⟨v, hv⟩ : ∃ v, v = num (bt s) at_ k := ⟨_, rfl⟩
    rw [← hv] at hn0 ⊢
    have HV := Lib.hid hv; clear hv
    by_cases hd : isDg (bt s) s.size (at_ + k)
    · obtain ⟨h1, h2, h3⟩ := hd
      have HS := Lib.hid (show num (bt s) at_ (k + 1) = 10 * v + (bt s (at_ + k) - 48) by rw [HV.out]; rfl)
      go_wp2
      go_round
      case rel =>
        refine ⟨k + 1, by omega, by go_num, congrArg (Value.int .i64) ?_, Lib.hid fun j hj => ?_⟩
        · rw [HS.out]; split <;> omega
        · rcases Nat.lt_or_eq_of_le (Nat.le_of_lt_succ hj) with h | rfl
          · exact HG.out j h
          · exact ⟨h1, h2, h3⟩
      case measure => simp [intOf]; omega
    · have HE := Lib.hid (show EndsAt (bt s) s.size at_ (at_ + k) from ⟨by omega, fun j h1 h2 => by have := HG.out (j - at_) (by omega); rwa [show at_ + (j - at_) = j by omega] at this, hd⟩)
      have HK := Lib.hid (show numRes (bt s) at_ (at_ + k) = if k = 0 ∨ (bt s at_ = 48 ∧ 1 < k) then (0, 3) else if 1024 ≤ v then (0, 2) else (v, 0) by
        unfold numRes
        rw [show at_ + k - at_ = k by omega, ← HV.out]
        simp only [show (at_ + k = at_) = (k = 0) from propext ⟨fun h => by omega, fun h => by omega⟩, show (at_ + 1 < at_ + k) = (1 < k) from propext ⟨fun h => by omega, fun h => by omega⟩])
      have hreason : ¬ at_ + k < s.size ∨ (at_ + k < s.size ∧ bt s (at_ + k) < 48) ∨ (at_ + k < s.size ∧ 48 ≤ bt s (at_ + k) ∧ 57 < bt s (at_ + k)) := by
        unfold isDg at hd; omega
      have hin : 0 < k → at_ < s.size := fun h => by have := (HG.out 0 h).1; omega
      clear hd
      have HR := Lib.hid hreason
      by_cases hk0 : k = 0
      · subst hk0
        have HF := Lib.hid (show numRes (bt s) at_ (at_ + 0) = (0, 3) by rw [HK.out, if_pos (.inl rfl)]); clear hreason
        rcases (by simpa only [Nat.add_zero] using HR.out : ¬ at_ < s.size ∨ (at_ < s.size ∧ bt s at_ < 48) ∨ (at_ < s.size ∧ 48 ≤ bt s at_ ∧ 57 < bt s at_)) with hr | ⟨hr1, hr2⟩ | ⟨hr1, hr2, hr3⟩
        all_goals (go_wp2; go_ret3; refine ⟨_, HE.out, ?_, rfl⟩; rw [HF.out]; simp)
      · have hin := hin (by omega)
        by_cases h48 : bt s at_ = 48
        · by_cases hk1 : 1 < k
          · have HF := Lib.hid (show numRes (bt s) at_ (at_ + k) = (0, 3) by rw [HK.out, if_pos (.inr ⟨h48, hk1⟩)]); clear hreason
            rcases HR.out with hr | ⟨hr1, hr2⟩ | ⟨hr1, hr2, hr3⟩
            all_goals (go_wp2; go_ret3; refine ⟨_, HE.out, ?_, rfl⟩; rw [HF.out]; simp)
          · have HF0 := Lib.hid (show num (bt s) at_ 1 = 0 by unfold num num; rw [Nat.add_zero, h48]; rfl)
            obtain rfl : k = 1 := by omega
            have hv0 : v = 0 := by rw [HV.out, HF0.out]
            subst hv0
            rw [show min (0 : Int) 1024 = 0 from rfl]
            have HF := Lib.hid (show numRes (bt s) at_ (at_ + 1) = (0, 0) by rw [HK.out, if_neg (by omega), if_neg (by omega)]); clear hreason
            rcases HR.out with hr | ⟨hr1, hr2⟩ | ⟨hr1, hr2, hr3⟩
            all_goals (go_wp2; go_ret3; refine ⟨_, HE.out, ?_, rfl⟩; rw [HF.out]; simp)
        · by_cases hbig : 1024 ≤ v
          · have HF := Lib.hid (show numRes (bt s) at_ (at_ + k) = (0, 2) by rw [HK.out, if_neg (by omega), if_pos hbig]); clear hreason
            rcases HR.out with hr | ⟨hr1, hr2⟩ | ⟨hr1, hr2, hr3⟩
            all_goals (go_wp2; go_ret3; refine ⟨_, HE.out, ?_, rfl⟩; rw [HF.out]; simp)
          · have HF := Lib.hid (show numRes (bt s) at_ (at_ + k) = (v, 0) by rw [HK.out, if_neg (by omega), if_neg hbig]); clear hreason
            rw [show min v 1024 = v by omega]
            rcases HR.out with hr | ⟨hr1, hr2⟩ | ⟨hr1, hr2, hr3⟩
            all_goals (go_wp2; go_ret3; refine ⟨_, HE.out, ?_, rfl⟩; rw [HF.out]; simp)
end Go.Proofs.YtjneboajbmabbaaDoor.ref1

namespace Go.Proofs.YtjneboajbmabbaaDoor.ref1
open Go.RowKit Go.Own Go.Rw Go.SetL Go.Bits Go.Tz Go.SetT Go.PlainAid
set_option maxHeartbeats 1000000
set_option maxRecDepth 100000
attribute [local irreducible] beyond grow over

def zrow : Array Value := rowW zeros
theorem rowOf_nil : rowOf [] = zeros := rfl
theorem bt_lit (l : List UInt8) (k : Nat) (h : k < l.length) : bt ⟨l.toArray⟩ k = ((l[k]).toNat : Int) := by
  have hk : k < (ByteArray.mk l.toArray).size := by simpa [ByteArray.size] using h
  rw [← get_bt _ k hk]; rfl
theorem tl_at (s : ByteArray) : ∃ l : List UInt8, s = ⟨l.toArray⟩ ∧ s.toList = l := ⟨s.data.toList, by cases s; rfl, by rw [ByteArray.toList_eq]⟩
theorem tl_len (s : ByteArray) : s.toList.length = s.size := by
  obtain ⟨l, rfl, e⟩ := tl_at s
  rw [e]; simp [ByteArray.size]
theorem tl_bt (s : ByteArray) (k : Nat) (h : k < s.toList.length) : bt s k = ((s.toList[k]).toNat : Int) := by
  obtain ⟨l, rfl, e⟩ := tl_at s
  rw [bt_lit l k (by rw [← e]; exact h)]
  congr 2
  simp [e]
theorem tl_two (s : ByteArray) : (s.toList == [123, 125]) = decide (s.size = 2 ∧ bt s 0 = 123 ∧ bt s 1 = 125) := by
  have hl := tl_len s
  have hb := tl_bt s
  generalize s.toList = l at hl hb ⊢
  rw [← hl]
  match l, hb with
  | [], _ => rfl
  | [_], _ => simp
  | [x, y], hb =>
    have h0 := hb 0 (by simp)
    have h1 := hb 1 (by simp)
    simp only [List.getElem_cons_zero, List.getElem_cons_succ] at h0 h1
    rw [h0, h1]
    rw [Bool.eq_iff_iff]
    simp [← UInt8.toNat_inj]
    omega
  | x :: y :: z :: t, _ => simp
theorem parse_calls (s : ByteArray) (hs : s.size ≤ 1000000) (w : World) :
    Calls Tryd.prog 50 #[.string s] w fun e w' => e = .returned (.tuple #[.agg (rowW (rowOf (parseS (bt s) s.size).1)), .int .i64 (parseS (bt s) s.size).2]) ∧ ∃ y, w' = beyond w y := by
  have hb := get_bt s
  have H2 := Lib.hid (tl_two s)
  have HL := Lib.hid (tl_len s)
  by_cases he : s.size = 0
  · have HP := Lib.hid (show parseS (bt s) s.size = ([], 3) by unfold parseS; rw [if_pos (.inl he)])
    have hn : s.toList = [] := List.length_eq_zero_iff.1 (by rw [HL.out, he])
    go_enter Tryd.func50, Tryd.ntmps50
    go_wp2
    refine bodyPost_ret (results_block2 rfl _ _ w.heap.size 25 (rowW zeros) _ _ rfl rfl (blockOf_alloc_at _ _ _ rfl) Tryd.underlying25 rfl (by kernel_rfl)) rfl ?_
    refine ⟨?_, beyond_of (by repeat (first | assumption | exact Below.refl _ _ | exact below_beyond _ _ | refine Below.beyond ?_ (by (try simp [size_beyond]) <;> omega) _ | refine Below.drew ?_ | refine Go.Rw.below_drewN ?_ _ | refine Go.Rw.below_setRow ?_ (by (try simp [size_beyond]) <;> omega) _ | refine Below.alloc ?_ (by (try simp [size_beyond]) <;> omega) _ | refine Below.setCell ?_ (by (try simp [size_beyond]) <;> omega) _))⟩
    rw [HP.out]; rfl
  · have hn : ¬ s.toList = [] := fun h => he (by rw [← HL.out, h]; rfl)
    have hn2 : s.toList.isEmpty = false := by simpa using hn
    have hpos : 0 < s.size := by omega
    by_cases h0 : bt s 0 = 123
    · by_cases h2 : s.size = 2 ∧ bt s 1 = 125
      · have HP := Lib.hid (show parseS (bt s) s.size = ([], 0) by unfold parseS; rw [if_neg (fun h => h.elim (by omega) (fun h => h h0)), if_pos h2])
        have hq : (s.toList == [123, 125]) = true := by rw [H2.out]; exact decide_eq_true ⟨h2.1, h0, h2.2⟩
        clear h2
        go_enter Tryd.func50, Tryd.ntmps50
        go_wp2
        refine bodyPost_ret (results_block2 rfl _ _ w.heap.size 25 (rowW zeros) _ _ rfl rfl (blockOf_alloc_at _ _ _ rfl) Tryd.underlying25 rfl (by kernel_rfl)) rfl ?_
        refine ⟨?_, beyond_of (by repeat (first | assumption | exact Below.refl _ _ | exact below_beyond _ _ | refine Below.beyond ?_ (by (try simp [size_beyond]) <;> omega) _ | refine Below.drew ?_ | refine Go.Rw.below_drewN ?_ _ | refine Go.Rw.below_setRow ?_ (by (try simp [size_beyond]) <;> omega) _ | refine Below.alloc ?_ (by (try simp [size_beyond]) <;> omega) _ | refine Below.setCell ?_ (by (try simp [size_beyond]) <;> omega) _))⟩
        rw [HP.out]; rfl
      · have hq : (s.toList == [123, 125]) = false := by rw [H2.out]; exact decide_eq_false (fun h => h2 ⟨h.1, h.2.2⟩)
        have HP := Lib.hid (show parse (bt s) s.size (s.size + 1) 1 [] = parseS (bt s) s.size by unfold parseS; rw [if_neg (fun h => h.elim (by omega) (fun h => h h0)), if_neg h2])
        clear h2
        have K1 : BlkAt w.heap.size (rowW zeros) 25 ((w.alloc (.cells (rowW zeros) 25)).alloc (.cells (rowW zeros) 25)) := ⟨by simp [go_sem]⟩
        have K2 : BlkAt (w.heap.size + 1) (rowW (rowOf [])) 25 ((w.alloc (.cells (rowW zeros) 25)).alloc (.cells (rowW zeros) 25)) := ⟨by simp [go_sem, rowOf_nil]⟩
        have HB0 := Lib.hid (show Below w.heap.size w ((w.alloc (.cells (rowW zeros) 25)).alloc (.cells (rowW zeros) 25)) from (by repeat (first | assumption | exact Below.refl _ _ | exact below_beyond _ _ | refine Below.beyond ?_ (by (try simp [size_beyond]) <;> omega) _ | refine Below.drew ?_ | refine Go.Rw.below_drewN ?_ _ | refine Go.Rw.below_setRow ?_ (by (try simp [size_beyond]) <;> omega) _ | refine Below.alloc ?_ (by (try simp [size_beyond]) <;> omega) _ | refine Below.setCell ?_ (by (try simp [size_beyond]) <;> omega) _)))
        go_enter Tryd.func50, Tryd.ntmps50
        go_wp2
        go_loopw [5, 6] (fun lst at_ wr => ∃ (a f : Nat) (out : List Int), at_ = .int .i64 a ∧ lst = .int .i64 (out.getLastD (-1)) ∧ a ≤ s.size ∧ s.size + 1 ≤ f + a ∧ -1 ≤ out.getLastD (-1) ∧ out.getLastD (-1) < 1024 ∧ Hid (parse (bt s) s.size f a out = parseS (bt s) s.size) ∧ Hid (BlkAt w.heap.size (rowW zeros) 25 wr) ∧ Hid (BlkAt (w.heap.size + 1) (rowW (rowOf out)) 25 wr) ∧ Hid (Below w.heap.size w wr)) (fun _ i _ => s.size + 1 - (intOf i).toNat)
        case atStart => exact ⟨1, s.size + 1, [], rfl, rfl, by omega, by omega, by simp, by simp, HP, Lib.hid K1, Lib.hid K2, HB0⟩
        case round =>
          obtain ⟨a, f, out, rfl, rfl, ha, hf, hl0, hl1, HQ, HK1, HK2, HB⟩ := hrel
          clear K1 K2 HB0
          obtain ⟨f, rfl⟩ : ∃ g, f = g + 1 := ⟨f - 1, by omega⟩
          obtain ⟨lst, hlst⟩ : ∃ x, x = out.getLastD (-1) := ⟨_, rfl⟩
          rw [← hlst] at hl0 hl1 ⊢
          have HLS := Lib.hid hlst; clear hlst
          have HNC := Lib.hid (number_calls s a hs ha)
          go_wp2_with (fail)
          go_at_call 60
          refine (HNC.out _).mono ?_
          rintro e w1 ⟨en, hen, rfl, rfl⟩
          have hle := hen.le
          have hlt := hen.lt ha
          have HDE := Lib.hid (dEnd_of s.size a hen (by omega)); clear hen
          by_cases c1 : en = a ∨ (bt s a = 48 ∧ a + 1 < en)
          · have HP2 := Lib.hid (show parseS (bt s) s.size = ([], 3) by rw [← HQ.out]; unfold parse; rw [HDE.out, if_pos c1])
            rw [show numRes (bt s) a en = (0, 3) from if_pos c1]
            clear c1
            go_wp2_with (refine wpList_store_over rfl 25 (.tmp 2) (.tmp 39) rfl (rowW zeros) 25 _ _ rfl HK1.out rfl (by kernel_rfl) rfl (by kernel_rfl) ?_; intro wz hkz KZ hbz; have HBZ := Lib.hid hbz; clear hkz hbz)
            refine bodyPost_ret (results_block2 rfl _ _ w.heap.size 25 (rowW zeros) _ _ rfl rfl KZ.all Tryd.underlying25 rfl (by kernel_rfl)) rfl ?_
            refine ⟨?_, beyond_of (HB.out.trans (HBZ.out.mono (Nat.le_refl _)))⟩
            rw [HP2.out]; rfl
          · by_cases c2 : 1024 ≤ num (bt s) a (en - a)
            · have HP2 := Lib.hid (show parseS (bt s) s.size = ([], 2) by rw [← HQ.out]; unfold parse; rw [HDE.out, if_neg c1, if_pos c2])
              rw [show numRes (bt s) a en = (0, 2) by unfold numRes; rw [if_neg c1, if_pos c2]]
              clear c1 c2
              go_wp2_with (refine wpList_store_over rfl 25 (.tmp 2) (.tmp 39) rfl (rowW zeros) 25 _ _ rfl HK1.out rfl (by kernel_rfl) rfl (by kernel_rfl) ?_; intro wz hkz KZ hbz; have HBZ := Lib.hid hbz; clear hkz hbz)
              refine bodyPost_ret (results_block2 rfl _ _ w.heap.size 25 (rowW zeros) _ _ rfl rfl KZ.all Tryd.underlying25 rfl (by kernel_rfl)) rfl ?_
              refine ⟨?_, beyond_of (HB.out.trans (HBZ.out.mono (Nat.le_refl _)))⟩
              rw [HP2.out]; rfl
            · have HNR := Lib.hid (show numRes (bt s) a en = (num (bt s) a (en - a), 0) by unfold numRes; rw [if_neg c1, if_neg c2])
              have HPQ := Lib.hid (show parseS (bt s) s.size = if num (bt s) a (en - a) ≤ lst then ([], 3) else if en < s.size ∧ bt s en = 32 then parse (bt s) s.size f (en + 1) (out ++ [num (bt s) a (en - a)]) else if en + 1 = s.size ∧ bt s en = 125 then (out ++ [num (bt s) a (en - a)], 0) else ([], 3) by rw [← HQ.out, HLS.out]; conv => { lhs; unfold parse }; rw [HDE.out, if_neg c1, if_neg c2])
              rw [HNR.out]
              generalize num (bt s) a (en - a) = v at HPQ c2 ⊢
              clear c1 HNR
              by_cases c3 : v ≤ lst
              · have HP2 := Lib.hid (show parseS (bt s) s.size = ([], 3) by rw [HPQ.out, if_pos c3])
                go_wp2_with (refine wpList_store_over rfl 25 (.tmp 2) (.tmp 39) rfl (rowW zeros) 25 _ _ rfl HK1.out rfl (by kernel_rfl) rfl (by kernel_rfl) ?_; intro wz hkz KZ hbz; have HBZ := Lib.hid hbz; clear hkz hbz)
                refine bodyPost_ret (results_block2 rfl _ _ w.heap.size 25 (rowW zeros) _ _ rfl rfl KZ.all Tryd.underlying25 rfl (by kernel_rfl)) rfl ?_
                refine ⟨?_, beyond_of (HB.out.trans (HBZ.out.mono (Nat.le_refl _)))⟩
                rw [HP2.out]; rfl
              · have HP3 := Lib.hid (HPQ.out.trans (if_neg c3)); clear HPQ
                have HZ := Lib.hid (show (rowW (rowOf out)).size = 16 by rw [rowW_size, rowOf_len])
                have HZ2 := Lib.hid (show (rowW (withS (rowOf out) v)).size = 16 by rw [rowW_size, withS_len, rowOf_len])
                have HW := Lib.hid (wset_calls (rowOf_len out) v)
                go_wp2_with (refine wpList_load_any (by kernel_rfl) 25 (.tmp 4) rfl _ (rowW (rowOf out)) 25 _ rfl HK2.out.all Tryd.underlying25 rfl (by rw [HZ.out]; exact sInfo) ?_)
                go_at_call 25
                refine (HW.out _).mono ?_
                rintro e w1 ⟨rfl, y, rfl⟩
                have J1 := HK1.out.below (below_beyond wr y)
                have J2 := HK2.out.below (below_beyond wr y)
                have HBY := Lib.hid (HB.out.trans ((below_beyond wr y).mono HB.out.size))
                by_cases c4 : en < s.size ∧ bt s en = 32
                · have HP4 := Lib.hid (HP3.out.trans (if_pos c4))
                  obtain ⟨c4, c4'⟩ := c4
                  by_cases c8 : en + 1 = s.size
                  · have hb9 : bt s (s.size - 1) = 32 := by rw [show s.size - 1 = en by omega]; exact c4'
                    go_wp2_with (refine wpList_store_over rfl 25 (.tmp 4) (.tmp 43) rfl (rowW (withS (rowOf out) v)) 25 _ _ rfl J2 rfl (by rw [HZ2.out]; exact sInfo) (by rw [HZ.out, HZ2.out]) (rowW_one _) ?_; intro wv hkv KV hbv; have I1 := hkv _ _ _ (by omega) J1; have HBV := Lib.hid (HBY.out.trans (hbv.mono (Nat.le_succ _))); clear hkv hbv J1 J2)
                    all_goals (
                      go_roundw
                      case rel => exact ⟨en + 1, f, out ++ [v], by go_num, by simp, by omega, by omega, by simp; omega, by simp; omega, Lib.hid HP4.out.symm, Lib.hid I1, Lib.hid (by rw [rowOf_snoc]; exact KV), HBV⟩
                      case measure => simp [intOf]; omega)
                  · go_wp2_with (refine wpList_store_over rfl 25 (.tmp 4) (.tmp 43) rfl (rowW (withS (rowOf out) v)) 25 _ _ rfl J2 rfl (by rw [HZ2.out]; exact sInfo) (by rw [HZ.out, HZ2.out]) (rowW_one _) ?_; intro wv hkv KV hbv; have I1 := hkv _ _ _ (by omega) J1; have HBV := Lib.hid (HBY.out.trans (hbv.mono (Nat.le_succ _))); clear hkv hbv J1 J2)
                    all_goals (
                      go_roundw
                      case rel => exact ⟨en + 1, f, out ++ [v], by go_num, by simp, by omega, by omega, by simp; omega, by simp; omega, Lib.hid HP4.out.symm, Lib.hid I1, Lib.hid (by rw [rowOf_snoc]; exact KV), HBV⟩
                      case measure => simp [intOf]; omega)
                · have HP4 := Lib.hid (HP3.out.trans (if_neg c4))
                  by_cases c5 : en + 1 = s.size ∧ bt s en = 125
                  · have HP5 := Lib.hid (HP4.out.trans (if_pos c5))
                    obtain ⟨c5, c5'⟩ := c5
                    have hb9 : bt s (s.size - 1) = 125 := by rw [show s.size - 1 = en by omega]; exact c5'
                    clear c4
                    go_wp2_with (first | (refine wpList_store_over rfl 25 (.tmp 4) (.tmp 43) rfl (rowW (withS (rowOf out) v)) 25 _ _ rfl J2 rfl (by rw [HZ2.out]; exact sInfo) (by rw [HZ.out, HZ2.out]) (rowW_one _) ?_; intro wv hkv KV hbv; have I1 := hkv _ _ _ (by omega) J1; have HBV := Lib.hid (HBY.out.trans (hbv.mono (Nat.le_succ _))); clear hkv hbv J1 J2) | (refine wpList_load_any (by kernel_rfl) 25 (.tmp 4) rfl _ (rowW (withS (rowOf out) v)) 25 _ rfl KV.all Tryd.underlying25 rfl (by rw [HZ2.out]; exact sInfo) ?_) | (refine wpList_store_over rfl 25 (.tmp 2) (.tmp 57) rfl (rowW (withS (rowOf out) v)) 25 _ _ rfl I1 rfl (by rw [HZ2.out]; exact sInfo) (by rw [HZ2.out]; rfl) (rowW_one _) ?_; intro wz hkz KZ hbz; have HBZ := Lib.hid hbz; clear hkz hbz))
                    refine bodyPost_ret (results_block2 rfl _ _ w.heap.size 25 (rowW (withS (rowOf out) v)) _ _ rfl rfl KZ.all Tryd.underlying25 rfl (by rw [HZ2.out]; exact sInfo)) rfl ?_
                    refine ⟨?_, beyond_of (HBV.out.trans (HBZ.out.mono (Nat.le_refl _)))⟩
                    rw [HP5.out]
                    show _ = Ending.returned (.tuple #[.agg (rowW (rowOf (out ++ [v]))), .int .i64 0])
                    rw [rowOf_snoc]; rfl
                  · have HP5 := Lib.hid (HP4.out.trans (if_neg c5))
                    have c6 : ¬ (en < s.size) ∨ (en < s.size ∧ ¬ bt s en = 32) := by omega
                    have c7 : ¬ (en + 1 = s.size) ∨ (en + 1 = s.size ∧ ¬ bt s en = 125) := by omega
                    clear c4 c5
                    have HC7 := Lib.hid c7; clear c7
                    rcases c6 with c6 | ⟨c6, c6'⟩
                    · go_wp2_with (first | (refine wpList_store_over rfl 25 (.tmp 4) (.tmp 43) rfl (rowW (withS (rowOf out) v)) 25 _ _ rfl J2 rfl (by rw [HZ2.out]; exact sInfo) (by rw [HZ.out, HZ2.out]) (rowW_one _) ?_; intro wv hkv KV hbv; have I1 := hkv _ _ _ (by omega) J1; have HBV := Lib.hid (HBY.out.trans (hbv.mono (Nat.le_succ _))); clear hkv hbv J1 J2) | (refine wpList_store_over rfl 25 (.tmp 2) (.tmp 68) rfl (rowW zeros) 25 _ _ rfl I1 rfl (by kernel_rfl) rfl (by kernel_rfl) ?_; intro wz hkz KZ hbz; have HBZ := Lib.hid hbz; clear hkz hbz))
                      refine bodyPost_ret (results_block2 rfl _ _ w.heap.size 25 (rowW zeros) _ _ rfl rfl KZ.all Tryd.underlying25 rfl (by kernel_rfl)) rfl ?_
                      refine ⟨?_, beyond_of (HBV.out.trans (HBZ.out.mono (Nat.le_refl _)))⟩
                      rw [HP5.out]; rfl
                    · have c6' : (bt s en != 32) = true := bne_iff_ne.2 c6'
                      rcases HC7.out with c7 | ⟨c7, c7'⟩
                      rotate_left
                      have hb9 : ¬ bt s (s.size - 1) = 125 := by rw [show s.size - 1 = en by omega]; exact c7'
                      have hb8 : (bt s (s.size - 1) != 32) = true := by rw [show s.size - 1 = en by omega]; exact c6'
                      all_goals (
                        go_wp2_with (first | (refine wpList_store_over rfl 25 (.tmp 4) (.tmp 43) rfl (rowW (withS (rowOf out) v)) 25 _ _ rfl J2 rfl (by rw [HZ2.out]; exact sInfo) (by rw [HZ.out, HZ2.out]) (rowW_one _) ?_; intro wv hkv KV hbv; have I1 := hkv _ _ _ (by omega) J1; have HBV := Lib.hid (HBY.out.trans (hbv.mono (Nat.le_succ _))); clear hkv hbv J1 J2) | (refine wpList_store_over rfl 25 (.tmp 2) (.tmp 68) rfl (rowW zeros) 25 _ _ rfl I1 rfl (by kernel_rfl) rfl (by kernel_rfl) ?_; intro wz hkz KZ hbz; have HBZ := Lib.hid hbz; clear hkz hbz))
                        refine bodyPost_ret (results_block2 rfl _ _ w.heap.size 25 (rowW zeros) _ _ rfl rfl KZ.all Tryd.underlying25 rfl (by kernel_rfl)) rfl ?_
                        refine ⟨?_, beyond_of (HBV.out.trans (HBZ.out.mono (Nat.le_refl _)))⟩
                        rw [HP5.out]; rfl)
    · have HP2 := Lib.hid (show parseS (bt s) s.size = ([], 3) by unfold parseS; rw [if_pos (.inr h0)])
      go_enter Tryd.func50, Tryd.ntmps50
      go_wp2
      refine bodyPost_ret (results_block2 rfl _ _ w.heap.size 25 (rowW zeros) _ _ rfl rfl (blockOf_alloc_at _ _ _ rfl) Tryd.underlying25 rfl (by kernel_rfl)) rfl ?_
      refine ⟨?_, beyond_of (by repeat (first | assumption | exact Below.refl _ _ | exact below_beyond _ _ | refine Below.beyond ?_ (by (try simp [size_beyond]) <;> omega) _ | refine Below.drew ?_ | refine Go.Rw.below_drewN ?_ _ | refine Go.Rw.below_setRow ?_ (by (try simp [size_beyond]) <;> omega) _ | refine Below.alloc ?_ (by (try simp [size_beyond]) <;> omega) _ | refine Below.setCell ?_ (by (try simp [size_beyond]) <;> omega) _))⟩
      rw [HP2.out]; rfl
end Go.Proofs.YtjneboajbmabbaaDoor.ref1
