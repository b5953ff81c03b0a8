/-
  The text of a set, as the program puts it together.
-/
import Derived.Test.YtjneboajbmabbaaDoorMB1
import Derived.Test.YtjneboajbmabbaaDoorMB2
import Derived.Test.YtjneboajbmabbaaDoorMLP1
import Derived.Test.YtjneboajbmabbaaDoorMLP2
import Derived.Test.YtjneboajbmabbaaDoorMLP3
import Derived.Test.YtjneboajbmabbaaDoorMLP4
import Derived.Test.YtjneboajbmabbaaDoorMLP5
import Derived.Test.YtjneboajbmabbaaDoorMLP6
import Derived.Test.YtjneboajbmabbaaDoorMLP7
import Derived.Test.YtjneboajbmabbaaDoorMLP8
import Derived.Laws.IdiomStrings
set_option linter.unusedSimpArgs false
set_option linter.unusedVariables false
namespace Go.Proofs.YtjneboajbmabbaaDoor.ref1
open Go.RowKit Go.Own Go.Rw Go.SetL Go.Bits Go.Tz Go.Shelf Go.SetT
set_option maxHeartbeats 1000000
set_option maxRecDepth 100000
attribute [local go_sem] Oper.semAt_some

/-- the table of powers is where it was laid, and stays so -/
def DecW (w : World) : Prop := Lib.TabBelow Tryd.prog 3 w "internal/strconv.uint64pow10" .u64 Lib.pow10Tab
theorem DecW.at {w : World} (h : DecW w) {B : Nat} (hB : 3 ≤ B) : Lib.TabBelow Tryd.prog B w "internal/strconv.uint64pow10" .u64 Lib.pow10Tab := fun w' h' => h w' (h'.mono hB)
theorem DecW.below {w w' : World} (h : DecW w) {B : Nat} (hB : 3 ≤ B) (hb : Below B w w') : DecW w' := fun w2 h2 => h w2 ((hb.mono hB).trans h2)
theorem infoU8 : (Tryd.prog.info? 5).map (fun i => (i.zero, i.size, i.bytes)) = some (some (.int .u8 0), 1, 1) := by kernel_rfl
theorem keepsOthers_of {e : TypeId} {w w' : World} (hs : w.heap.size ≤ w'.heap.size) (h : Lib.OthersKept e none w w') : KeepsOthers w w' :=
  ⟨hs, fun k o hk ho => h k o hk (by simp) (fun c fz ec => by subst ec; cases ho)⟩
theorem boxed_others {e t : TypeId} {w w' : World} {B : Nat} {v : Value} (hv : Boxed w B t v) (hte : t ≠ e) (h : Lib.OthersKept e none w w') : Boxed w' B t v :=
  h B _ hv (by simp) (fun c fz ec => by cases ec; exact hte rfl)
/-- the bytes of a row, as a string -/
theorem own_conv {w : World} {B n cap g : Nat} {l : List UInt8} (hl : l.length = n) (h : w.ownsRow B 5 1 (.slice (some ⟨g, 0, none⟩) n cap) n (Lib.byteCells l)) :
    (convert 81 9 (.slice (some ⟨g, 0, none⟩) n cap)).run Tryd.prog w = .ok (.string ⟨l.toArray⟩) w := by
  subst hl
  refine run_convert_bytes_back w 81 9 5 ⟨g, 0, none⟩ cap l Tryd.underlying81 Tryd.underlying5 Tryd.underlying9 fun j hj => ?_
  refine h.cells rfl j _ ?_
  simp [Lib.byteCells, hj]

theorem fin_step {W w1 w2 : World} {n₀ bx m : Nat} {v v' : Value} {ys : List Value} (K : KeepsOthers W w1) (Bl : Below n₀ W w1) (hv : Boxed w1 bx 81 v) (hn : n₀ ≤ bx) (ho : w2.ownsRow n₀ 5 1 v' m ys) (hb : Below n₀ w1 w2) (hk : Lib.OthersKept 5 none w1 w2) :
    KeepsOthers W (w2.setCell ⟨bx, 0, none⟩ v') ∧ Below n₀ W (w2.setCell ⟨bx, 0, none⟩ v') ∧ Boxed (w2.setCell ⟨bx, 0, none⟩ v') bx 81 v' ∧ (w2.setCell ⟨bx, 0, none⟩ v').ownsRow n₀ 5 1 v' m ys := by
  have hv2 := boxed_others hv (by decide) hk
  exact ⟨(K.trans (keepsOthers_of hb.size hk)).trans (KeepsOthers.setCell _ _ _), (Bl.trans hb).setCell (p := ⟨bx, 0, none⟩) hn v', hv2.set v', ho.kept (grownBy_setCell' w2 bx v') (.inr (hv2.not_row (by decide) ho).symm)⟩
theorem finL_range (l : List (Fin 1024)) : ∀ x ∈ finL l, 0 ≤ x ∧ x < 1024 := by
  intro x hx
  obtain ⟨m, _, rfl⟩ := List.mem_map.1 hx
  have := m.isLt
  constructor <;> omega
theorem strF_len (l : List (Fin 1024)) : (strL (finL l)).length ≤ 5 * l.length + 1 := by
  have := strL_len (finL_range l)
  simpa [finL] using this
theorem strF_succ (l : List Int) : ∃ k, (strL l).length = k + 1 := ⟨(strL l).length - 1, by have := (strL_one l).1; omega⟩

theorem keepsO_append {W w1 : World} {n₀ k size : Nat} {e : TypeId} {v : Value} {xs : List Value} {tmp : Obj} (hrow : W.ownsRow n₀ e size v k xs) (hgrow : (W.alloc tmp).grownBy w1 v.ownBlock) (hn₀ : n₀ ≤ W.heap.size) : KeepsOthers W w1 ∧ Below n₀ W w1 := by
  constructor
  · refine (KeepsOthers.alloc W tmp).trans (KeepsOthers.of_grownBy hgrow fun j o ej hj => ?_)
    rcases (hrow.alloc tmp).2 with ⟨rfl, _⟩ | ⟨g, cap, cur, rfl, _, hgb, _⟩
    · simp [Value.ownBlock] at ej
    · obtain rfl : g = j := by simpa [Value.ownBlock] using ej
      rw [hgb] at hj; cases hj; rfl
  · refine ((Below.refl n₀ W).alloc hn₀ tmp).grown hgrow (by simp; omega) fun j ej => ?_
    rcases hrow.2 with ⟨rfl, _⟩ | ⟨g, cap, cur, rfl, hb, _, _⟩
    · simp [Value.ownBlock] at ej
    · obtain rfl : g = j := by simpa [Value.ownBlock] using ej
      exact hb
theorem text_in (n : Nat) (hn : 3 ≤ n) {xs : List W} (hx : xs.length = 16) (w : World) (hT : TzW w) (hD : DecW w) (h0 : 3 ≤ w.heap.size) :
    CallsIn Fence.wide n Tryd.prog 49 #[.agg (rowW xs)] w fun e w' => e = .returned (.string ⟨(textL (elems xs)).toArray⟩) ∧ Below w.heap.size w w' := by
  have HZ := Lib.hid (show (rowW xs).size = 16 by rw [rowW_size, hx])
  have HT := Lib.hid hT; clear hT
  have HDc := Lib.hid hD; clear hD
  have HAl := Lib.hid (all_calls xs hx)
  obtain ⟨i0, hi, hz0, hz1, hz2⟩ := info_parts infoU8
  refine callsIn_of_wp_marks Tryd.func49 rfl trivial ?_ rfl
  simp only [Tryd.ntmps49, List.size_toArray, List.length_cons, List.length_nil, Nat.reduceAdd, Nat.reduceSub, Array.replicate_succ, Array.replicate_zero, List.push_toArray, List.append_toArray, List.nil_append, List.cons_append]
  gi_wp2_with (refine wpListIn_load_block rfl (fun _ => trivial) rfl 25 (.tmp 1) rfl w.heap.size (rowW xs) 25 _ rfl (by simp [go_sem]) Tryd.underlying25 rfl (by rw [HZ.out]; exact sInfo) ?_)
  refine ⟨trivial, (fun h => by cases h), ?_⟩
  refine (callsIn_wide.2 (HAl.out _)).mono ?_
  rintro e w2 ⟨rfl, rfl⟩
  gi_wp2
  have hs0 : (w.alloc (.cells (rowW xs) 25)).heap.size = w.heap.size + 1 := by simp
  have hrow0 : ((w.alloc (.cells (rowW xs) 25)).alloc (.cells #[.int .u8 123] 5)).ownsRow (w.heap.size + 1) 5 1 (.slice (some ⟨w.heap.size + 1, 0, none⟩) 1 1) 1 [.int .u8 123] := by
    have := World.ownsRow_lit (base := w.heap.size + 1) (e := 5) (size := 1) (w.alloc (.cells (rowW xs) 25)) #[.int .u8 123] 1 (Nat.le_of_eq hs0.symm) (by unfold maxLen; omega) rfl
    rw [hs0] at this
    exact this
  have bO := Boxed.new ((w.alloc (.cells (rowW xs) 25)).alloc (.cells #[.int .u8 123] 5)) 81 (.slice (some ⟨w.heap.size + 1, 0, none⟩) 1 1)
  rw [World.size_alloc, hs0] at bO
  have hB00 : Below w.heap.size w (w.alloc (.cells (rowW xs) 25)) := (Below.refl _ w).alloc (Nat.le_refl _) _
  have hB0 : Below (w.heap.size + 1) (w.alloc (.cells (rowW xs) 25)) ((((w.alloc (.cells (rowW xs) 25)).alloc (.cells #[.int .u8 123] 5)).alloc (.cells #[.slice (some ⟨w.heap.size + 1, 0, none⟩) 1 1] 81)).alloc (.cells (rowW xs) 25)) :=
    (((Below.refl _ _).alloc (by rw [hs0]; exact Nat.le_refl _) _).alloc (by simp) _).alloc (by simp) _
  have hTc := HT.out.belowN (by omega) (hB00.trans (hB0.mono (by omega)))
  refine wpIn_rangeFunc_ownG rfl (by omega) (gf := 57) (lb := #[.pointer (some ⟨w.heap.size + 1 + 1 + 1, 0, none⟩)]) rfl trivial (enters_of Tryd.func57 (by kernel_rfl) rfl)
    (all_fin (n - 1) (w.heap.size + 1 + 1 + 1) (w.heap.size + 1) hx (by omega) _ (T := 25) (by simp) (by simp) (by simp [go_sem]) hTc) belowK_t (belowK_b (by simp)) (Below.refl _ _) (fun _ => rfl)
    (fun pre W => (∃ v, Boxed W (w.heap.size + 1 + 1) 81 v ∧ W.ownsRow (w.heap.size + 1) 5 1 v (strL (finL pre)).length (Lib.byteCells (strL (finL pre))) ∧ True) ∧ Below (w.heap.size + 1) (w.alloc (.cells (rowW xs) 25)) W)
    (fun _ _ _ => False)
    (OwnFrom.and (Own.from (holdsRow_own (w.heap.size + 1) (w.heap.size + 1 + 1) 81 5 1 (fun pre : List (Fin 1024) => (strL (finL pre)).length) (fun pre => Lib.byteCells (strL (finL pre))) (fun _ _ => True)) _) (ownFrom_below (by rw [hs0]; exact Nat.le_refl _) (by simp)))
    (fun _ _ _ _ _ hs _ _ => hs)
    ⟨⟨_, bO.alloc _, (hrow0.alloc _).alloc _, trivial⟩, hB0⟩
    (fun x => { tmps := #[.agg (rowW xs), .pointer (some ⟨w.heap.size, 0, none⟩), .string ⟨#[]⟩, .pointer (some ⟨w.heap.size + 1 + 1, 0, none⟩), .int .i64 (x.val : Int), .slice (some ⟨w.heap.size + 1, 0, none⟩) 1 1, .agg (rowW xs), .func (.func 57) #[] #[.pointer (some ⟨w.heap.size + 1 + 1 + 1, 0, none⟩)], .int .i64 (x.val : Int), undef, undef, undef, undef, undef, undef, undef, undef, undef, undef, undef, undef, undef], defers := [] }) ?assign ?body ?done ?stop
  case assign =>
    intro l x W K hK
    gi_wp2
    exact hK
  case body =>
    rintro l pre x W ⟨⟨v, hv, hrow, -⟩, hB⟩ hlt
    have HDW := Lib.hid ((HDc.out.below (by omega) (hB00.trans (hB.mono (by omega)))).at (B := w.heap.size + 1) (by omega))
    have hl5 := strF_len pre
    have HST := Lib.hid (show strL (finL (pre ++ [x])) = strStep (strL (finL pre)) (x.val : Int) by rw [finL_snoc, strL_snoc])
    have hx0 : (x.val : Int) < 1024 := by have := x.isLt; omega
    obtain ⟨k, hk⟩ := strF_succ (finL pre)
    rw [hk] at hrow hl5
    obtain ⟨g, cap, rfl⟩ := ownsRow_succ hrow
    have hc := hv.cell
    have hnW : w.heap.size + 1 ≤ W.heap.size := by have := hB.size; rw [hs0] at this; exact this
    have HW := Lib.hid hnW
    have HB := Lib.hid hB
    clear hB hnW hs0 hB0 hB00 hrow0 bO hTc
    have HL5 := Lib.hid hl5
    have HK := Lib.hid hk
    have HX0 := Lib.hid hx0
    have HLT := Lib.hid hlt
    clear hl5 hk hx0 hlt
    gi_wp2_with (gi_at_builtin; refine wpListIn_append_own _ rfl _ _ 81 rfl (w.heap.size + 1) 5 i0 (.int .u8 0) 1 1 Tryd.underlying81 hi hz0 hz1 hz2 rfl (by decide) _ _ _ rfl (hrow.alloc _) ⟨W.heap.size, 0, none⟩ 1 1 [.int .u8 32] rfl rfl (cell_one_new _ _ _) (by simp [Value.oneCell']) (by have := HL5.out; have := HLT.out; unfold maxLen; omega) (by have := HL5.out; have := HLT.out; omega) (by have := HW.out; simp; omega) ?_; intro v' w2 hown' hgrow _; obtain ⟨g', cap', rfl⟩ := ownsRow_succ hown'; obtain ⟨hv1, hv2, hr2, hk2, hb2⟩ := hv.appended (by decide) hrow HW.out (by omega) hown' hgrow; have hc1 := hv1.cell; have hf1 := hv1.frozen; have hc2 := hv2.cell)
    · have hcond : 1 < (strL (finL pre)).length := by rw [HK.out]; omega
      have e : strL (finL (pre ++ [x])) = (strL (finL pre) ++ [32]) ++ Lib.itoa (x.val : Int) := by rw [HST.out]; unfold strStep; rw [if_pos hcond]
      have e2 : (strL (finL (pre ++ [x]))).length = k + 1 + 1 + (Lib.itoa (x.val : Int)).length := by rw [e, List.length_append, List.length_append, HK.out]; rfl
      have HE := Lib.hid e
      obtain ⟨m, hm⟩ : ∃ m, k + 1 + 1 + (Lib.itoa (x.val : Int)).length = m + 1 := ⟨_, Nat.succ_pred_eq_of_pos (by omega) |>.symm⟩
      rw [hm] at e2
      have HE2 := Lib.hid e2
      have HM := Lib.hid hm
      clear e e2 hcond hm
      refine ⟨trivial, (fun h => by cases h), ?_⟩
      refine ((wideF_1 l).calls (Tryd.strconv_AppendInt_10 (w.heap.size + 1) _ (x.val : Int) (by omega) (by have := HX0.out; omega) _ _ _ hr2 (Nat.le_trans HW.out hb2.size) (by have := HL5.out; have := HLT.out; omega) (HDW.out.on hb2))).mono ?_
      rintro e w3 ⟨v3, rfl, ho3, hb3, hk3⟩
      rw [HM.out] at ho3
      obtain ⟨g3, cap3, rfl⟩ := ownsRow_succ ho3
      obtain ⟨F1, F2, F3, F4⟩ := fin_step hk2 hb2 hv2 (by omega) ho3 hb3 hk3
      have hv3 := boxed_others hv2 (by decide) hk3
      have hc3 := hv3.cell
      have hf3 := hv3.frozen
      gi_wp2
      refine ⟨F1.from _, F2, ⟨_, F3, ?_, trivial⟩, HB.out.trans F2⟩
      rw [HE2.out, HE.out, Lib.byteCells_append, Lib.byteCells_append]
      exact F4
    · have hcond : ¬ 1 < (strL (finL pre)).length := by rw [HK.out]; omega
      have e : strL (finL (pre ++ [x])) = strL (finL pre) ++ Lib.itoa (x.val : Int) := by rw [HST.out]; unfold strStep; rw [if_neg hcond]
      have e2 : (strL (finL (pre ++ [x]))).length = k + 1 + (Lib.itoa (x.val : Int)).length := by rw [e, List.length_append, HK.out]
      have HE := Lib.hid e
      obtain ⟨m, hm⟩ : ∃ m, k + 1 + (Lib.itoa (x.val : Int)).length = m + 1 := ⟨_, Nat.succ_pred_eq_of_pos (by omega) |>.symm⟩
      rw [hm] at e2
      have HE2 := Lib.hid e2
      have HM := Lib.hid hm
      clear e e2 hcond hm
      refine ⟨trivial, (fun h => by cases h), ?_⟩
      refine ((wideF_1 l).calls (Tryd.strconv_AppendInt_10 (w.heap.size + 1) _ (x.val : Int) (by omega) (by have := HX0.out; omega) _ _ _ hrow HW.out (by have := HL5.out; have := HLT.out; omega) HDW.out)).mono ?_
      rintro e w3 ⟨v3, rfl, ho3, hb3, hk3⟩
      rw [HM.out] at ho3
      obtain ⟨g3, cap3, rfl⟩ := ownsRow_succ ho3
      obtain ⟨F1, F2, F3, F4⟩ := fin_step (KeepsOthers.refl W) (Below.refl _ W) hv (by omega) ho3 hb3 hk3
      have hv3 := boxed_others hv (by decide) hk3
      have hc3 := hv3.cell
      have hf3 := hv3.frozen
      gi_wp2
      refine ⟨F1.from _, F2, ⟨_, F3, ?_, trivial⟩, HB.out.trans F2⟩
      rw [HE2.out, HE.out, Lib.byteCells_append]
      exact F4
  case done =>
    rintro D ys W hD hS ⟨⟨v, hv, hrow, -⟩, hB⟩ hK
    have hnW : w.heap.size + 1 ≤ W.heap.size := by have := hB.size; rw [hs0] at this; exact this
    have HW := Lib.hid hnW
    have hlen : (strL (finL ys)).length ≤ 6000 := by
      have h1 := strL_len (finL_range ys)
      rw [show finL ys = elems xs from hS] at h1 ⊢
      have : (elems xs).length ≤ 1024 := ofN_len (bitAt xs) 1024
      omega
    have hS : finL ys = elems xs := hS
    rw [hS] at hrow hlen
    have HL := Lib.hid hlen
    obtain ⟨k, hk⟩ := strF_succ (elems xs)
    have HK := Lib.hid hk
    rw [hk] at hrow
    obtain ⟨g, cap, rfl⟩ := ownsRow_succ hrow
    have HB := Lib.hid hB
    have HB00 := Lib.hid hB00
    clear hB hnW hs0 hB0 hrow0 bO hTc hlen hk hS hB00
    have hc := hv.cell
    gi_wp2_with (gi_at_builtin; refine wpListIn_append_own _ rfl _ _ 81 rfl (w.heap.size + 1) 5 i0 (.int .u8 0) 1 1 Tryd.underlying81 hi hz0 hz1 hz2 rfl (by decide) _ _ _ rfl (hrow.alloc _) ⟨W.heap.size, 0, none⟩ 1 1 [.int .u8 125] rfl rfl (cell_one_new _ _ _) (by simp [Value.oneCell']) (by have := HL.out; have := HK.out; unfold maxLen; omega) (by have := HL.out; have := HK.out; omega) (by have := HW.out; simp; omega) ?_; intro v' w2 hown' hgrow _; obtain ⟨g', cap', rfl⟩ := ownsRow_succ hown'; have hq : w2.ownsRow (w.heap.size + 1) 5 1 (.slice (some ⟨g', 0, none⟩) (k + 1 + 1) cap') (k + 1 + 1) (Lib.byteCells (textL (elems xs))) := (by unfold textL; rw [Lib.byteCells_append]; exact hown'); have hcv := own_conv (by unfold textL; rw [List.length_append, HK.out]; rfl) hq; obtain ⟨hko, hbo⟩ := keepsO_append hrow hgrow HW.out)
    have hK2 := hko.same D _ hK rfl
    refine ⟨by simp, .inl ⟨_, _, rfl, run_takeDeferred hK2, ?_⟩⟩
    exact ⟨_, results_tmp rfl _ _ _, rfl, HB00.out.trans ((HB.out.trans (hbo.trans (belowK_b (w := w.alloc (.cells (rowW xs) 25)) (by simp) w2 D _ _ (by simp at hD ⊢; omega) hK2 rfl rfl))).mono (by omega))⟩
  case stop =>
    rintro D c pre W _ _ h _
    exact h.elim
theorem text_calls {xs : List W} (hx : xs.length = 16) (w : World) (hT : TzW w) (hD : DecW w) (h0 : 3 ≤ w.heap.size) :
    Calls Tryd.prog 49 #[.agg (rowW xs)] w fun e w' => e = .returned (.string ⟨(textL (elems xs)).toArray⟩) ∧ Below w.heap.size w w' :=
  callsIn_wide.1 (text_in 3 (by omega) hx w hT hD h0)
end Go.Proofs.YtjneboajbmabbaaDoor.ref1
