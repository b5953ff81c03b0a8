/-
  BitsetSubsets: the walk, whatever known() is.
-/
import Derived.Test.YtjneboajbmabbaaDoorMB1
import Derived.Test.YtjneboajbmabbaaDoorMB2
import Derived.Test.YtjneboajbmabbaaDoorMLB1
import Derived.Test.YtjneboajbmabbaaDoorMLB2
import Derived.Test.YtjneboajbmabbaaDoorMLB3
import Derived.Test.YtjneboajbmabbaaDoorMLB4
import Derived.Test.YtjneboajbmabbaaDoorMLB5
import Derived.Test.YtjneboajbmabbaaDoorMLB6
import Derived.Test.YtjneboajbmabbaaDoorMLB7
set_option linter.unusedSimpArgs false
set_option linter.unusedVariables false
namespace Go.Proofs.YtjneboajbmabbaaDoor.ref1
open Go.RowKit Go.Rw Go.SetL Go.Bits Go.Tz Go.Shelf Go.Own
set_option maxHeartbeats 8000000
set_option maxRecDepth 100000
attribute [local go_sem] Oper.semAt_some
attribute [local irreducible] beyond grow over

theorem wpQuiet_neRow {P : Program} {ops : Array Oper} {C : World → Prop} {Q : Act → Prop} {a : Act} {o : Oper} {rest : List Oper} (hw : Region.wanted o (yielded ops a.tmps) = true) {t r e : TypeId} {n : Nat} (x y : Operand) (ho : o.op = .binOp .neq t x y r)
    (hu : P.underlying t = some (.array n e)) (he : P.underlying e = some (.int .u64)) (hi : (P.info? e).map (·.size) = some 1) (hg : P.eqGuardType P.depth t = false)
    {xs ys : List W} (hx : xs.length = n) (hy : ys.length = n) (ex : a.eval x = .agg (rowW xs)) (ey : a.eval y = .agg (rowW ys))
    (hk : wpQuiet P ops C Q rest (a.put o.dst (.bool (!decide (xs = ys))))) : wpQuiet P ops C Q (o :: rest) a :=
  BigFrame.wpQuiet_want hw fun K hK => ⟨_, fun w hC => by
    unfold Oper.quietAt execOp
    simp only [ho, ex, ey]
    rw [Sem.run_bind, ne_run hu he hi hg hx hy x y w]
    exact ⟨rfl, rfl⟩, hK _ hk⟩
theorem ownFrom_blk {β : Type} (B g : Nat) (f : β → Array Value) (t : TypeId) : OwnFrom B (fun (s : β) W => BlkAt g (f s) t W) := fun s W W' row hs hg hr =>
  ⟨(hg.block g hs.lt (fun e => by obtain ⟨_, o, ho, hc⟩ := hr g e.symm; have := hs.all; rw [show W.heap[g]? = _ from this] at ho; cases ho; cases hc)).trans hs.all⟩
theorem ownFrom_ex {β γ : Type} {B : Nat} {p : γ → β → World → Prop} (h : ∀ g, OwnFrom B (p g)) : OwnFrom B (fun s W => ∃ g, p g s W) := fun s W W' row ⟨g, hs⟩ hg hr => ⟨g, h g s W W' row hs hg hr⟩
theorem ownFrom_ax (B : Nat) (p q : Nat → Prop) (cs : Array Value) (t : TypeId) : OwnFrom B (fun (_ : Unit) W => ∃ g, p g ∧ (BlkAt g cs t W ∧ q g)) := fun s W W' row ⟨g, h1, h2, h3⟩ hg hr =>
  ⟨g, h1, ownFrom_blk B g (fun _ : Unit => cs) t s W W' row h2 hg hr, h3⟩
section
variable {F : Fence} {n : Nat} {P : Program} {ops : Array Oper} {rest : List Oper} {o : Oper} {a : Act} {w : World} {Q : Exit → Act → World → Prop}
theorem wpListIn_value_any (hF : WideF F) (hnd : noDefer o = true) (hw : Region.wanted o (yielded ops a.tmps) = true) {v : Value} (hr : (execOp a.eval o).run P w = .ok (.value v) w) (h : wpListIn F n P ops Q rest (a.put o.dst v) w) : wpListIn F n P ops Q (o :: rest) a w := by
  unfold wpListIn; rw [if_pos hw]; refine ⟨fun f _ => hF.fn f, ?_⟩; rw [Oper.semAt_plain _ _ _ (noDefer_spec hnd), hr]; exact h
theorem wpListIn_neRow (hF : WideF F) (hw : Region.wanted o (yielded ops a.tmps) = true) {t r e : TypeId} {k : Nat} (x y : Operand) (ho : o.op = .binOp .neq t x y r)
    (hu : P.underlying t = some (.array k e)) (he : P.underlying e = some (.int .u64)) (hi : (P.info? e).map (·.size) = some 1) (hg : P.eqGuardType P.depth t = false)
    {xs ys : List W} (hx : xs.length = k) (hy : ys.length = k) (ex : a.eval x = .agg (rowW xs)) (ey : a.eval y = .agg (rowW ys))
    (h : wpListIn F n P ops Q rest (a.put o.dst (.bool (!decide (xs = ys)))) w) : wpListIn F n P ops Q (o :: rest) a w := by
  refine wpListIn_value_any hF (by unfold noDefer; rw [ho]) hw ?_ h
  unfold execOp
  simp only [ho, ex, ey]
  rw [Sem.run_bind, ne_run hu he hi hg hx hy x y w]
  rfl
theorem wpListIn_loadRow (hF : WideF F) (hw : Region.wanted o (yielded ops a.tmps) = true) (ty : TypeId) (x : Operand) (ho : o.op = .load ty x)
    (g : Nat) (cells : Array Value) (t : TypeId) (d : TypeDesc) (hx : a.eval x = .pointer (some ⟨g, 0, none⟩))
    (hg : blockOf w g = some (.cells cells t (0, 0))) (hu : P.underlying ty = some d) (hd : (match d with | .struct _ | .array _ _ => true | _ => false) = true) (hi : (P.info? ty).map (·.size) = some cells.size)
    (h : wpListIn F n P ops Q rest (a.put o.dst (.agg cells)) w) : wpListIn F n P ops Q (o :: rest) a w := by
  refine wpListIn_value_any hF (by unfold noDefer; rw [ho]) hw ?_ h
  unfold execOp
  simp only [ho, hx, Instr.loadAt, Instr.sureAddr, Sem.run_bind, Sem.run_pure, Result.andThen_ok, run_loadVar_row w g t ty cells (0, 0) d hg hu hd hi]
end
theorem pre_snocG {α : Type} {pre E : List α} {u : α} (h : pre <+: E) (hu : E[pre.length]? = some u) : pre ++ [u] <+: E := by
  obtain ⟨t, rfl⟩ := h
  cases t with
  | nil => simp at hu
  | cons y t => simp at hu; subst hu; exact ⟨t, by simp⟩
theorem pre_atG {α : Type} {pre E : List α} {x : α} (h : pre ++ [x] <+: E) : E[pre.length]? = some x := by
  obtain ⟨t, rfl⟩ := h
  simp
/-- the row before -/
theorem last_row {pre L : List (List Int)} (h : pre.map rowOf <+: L.map rowOf) (h0 : pre ≠ []) : ∃ s, L[pre.length - 1]? = some s ∧ rowOf (pre.getLast?.getD []) = rowOf s := by
  obtain ⟨t, ht⟩ := h
  have h1 : pre.length - 1 < pre.length := by have := List.length_pos_iff.2 h0; omega
  have h2 : (L.map rowOf)[pre.length - 1]? = some (rowOf (pre.getLast?.getD [])) := by
    rw [← ht, List.getElem?_append_left (by simpa using h1), List.getElem?_map, List.getLast?_eq_getElem?, List.getElem?_eq_getElem h1]; rfl
  rw [List.getElem?_map] at h2
  obtain ⟨s, hs, e⟩ := Option.map_eq_some_iff.1 h2
  exact ⟨s, hs, e.symm⟩
def mods (V : Nat → Int) (k : Nat) : List Int := (List.range k).map fun i => V i % 1024
theorem mods_succ (V : Nat → Int) (k : Nat) : mods V (k + 1) = mods V k ++ [V k % 1024] := by unfold mods; rw [List.range_succ]; simp
theorem mods_len (V : Nat → Int) (k : Nat) : (mods V k).length = k := by simp [mods]
theorem sub_main {W0 : World} (q : Option Addr) (m c b off : Nat) (V : Nat → Int) (hmc : m ≤ c) (hcc : c ≤ maxLen) (hq : 0 < m → q = some ⟨b, off, none⟩ ∧ b < W0.heap.size)
    (hV : ∀ i, i < m → W0.cell? ⟨b, off + i, none⟩ = some (.int .u16 (V i)) ∧ 0 ≤ V i ∧ V i ≤ 65535) (s : Int) (hs : 0 ≤ s ∧ s ≤ 65535)
    (hK : ∀ X, Below W0.heap.size W0 X → Calls Tryd.prog 24 #[] X fun e w' => e = .returned (.bool true) ∧ ∃ y, w' = beyond X y)
    (hT : TzW W0) (h0 : 0 < W0.heap.size) :
    Calls Tryd.prog 9 #[.slice q m c, .int .u16 s] W0 fun e w' => e = .returned (.bool true) ∧ ∃ x, w' = beyond W0 x := by
  have KK := Lib.hid hK; clear hK
  have TZ := Lib.hid hT; clear hT
  have HV := Lib.hid hV; clear hV
  have HQ := Lib.hid hq; clear hq
  have hc0 : c ≤ 9223372036854775807 := hcc
  refine callsIn_wide.1 (callsIn_of_wp_marks (n := 5) Tryd.func9 rfl trivial ?_ rfl)
  simp only [Tryd.ntmps9, List.size_toArray, List.length_cons, List.length_nil, Nat.reduceAdd, Nat.reduceSub, Array.replicate_succ, Array.replicate_zero, List.push_toArray, List.append_toArray, List.nil_append, List.cons_append]
  refine wpIn_wide.2 ?_
  go_wp2_with (fail)
  go_at_call 24
  refine (KK.out _ (by repeat (first | assumption | exact Below.refl _ _ | exact below_beyond _ _ | refine Below.beyond ?_ (by (try simp [size_beyond]) <;> omega) _ | refine Below.drew ?_ | refine Go.Rw.below_drewN ?_ _ | refine Go.Rw.below_setRow ?_ (by (try simp [size_beyond]) <;> omega) _ | refine Below.alloc ?_ (by (try simp [size_beyond]) <;> omega) _ | refine Below.setCell ?_ (by (try simp [size_beyond]) <;> omega) _))).mono ?_
  rintro e w1 ⟨rfl, y1, hw1⟩
  have B1 : Below W0.heap.size W0 w1 := by subst hw1; exact (by repeat (first | assumption | exact Below.refl _ _ | exact below_beyond _ _ | refine Below.beyond ?_ (by (try simp [size_beyond]) <;> omega) _ | refine Below.drew ?_ | refine Go.Rw.below_drewN ?_ _ | refine Go.Rw.below_setRow ?_ (by (try simp [size_beyond]) <;> omega) _ | refine Below.alloc ?_ (by (try simp [size_beyond]) <;> omega) _ | refine Below.setCell ?_ (by (try simp [size_beyond]) <;> omega) _))
  have hs1 : W0.heap.size + 2 ≤ w1.heap.size := by subst hw1; rw [size_beyond]; simp [World.size_alloc]
  have S1 : blockOf w1 W0.heap.size = some (.cells #[.int .u16 s] 65 (0, 0)) := by subst hw1; simp [go_sem, inW]
  have R1 : blockOf w1 (W0.heap.size + 1) = some (.cells #[.bool false] 4 (0, 0)) := by subst hw1; simp [go_sem, inW]
  clear hw1
  go_wp2_with (fail)
  go_loopw [6] (fun i wr => ∃ k : Nat, k ≤ m ∧ k ≤ 10 ∧ i = .int .i64 k ∧ BlkAt w1.heap.size (rowW (rowOf (mods V k))) 25 wr ∧ Hid (Below w1.heap.size w1 wr)) (fun i _ => 10 - (intOf i).toNat)
  case atStart => exact ⟨0, Nat.zero_le _, Nat.zero_le _, rfl, ⟨blockOf_alloc_at _ _ _ rfl⟩, Lib.hid (by repeat (first | assumption | exact Below.refl _ _ | exact below_beyond _ _ | refine Below.beyond ?_ (by (try simp [size_beyond]) <;> omega) _ | refine Below.drew ?_ | refine Go.Rw.below_drewN ?_ _ | refine Go.Rw.below_setRow ?_ (by (try simp [size_beyond]) <;> omega) _ | refine Below.alloc ?_ (by (try simp [size_beyond]) <;> omega) _ | refine Below.setCell ?_ (by (try simp [size_beyond]) <;> omega) _))⟩
  case round =>
    obtain ⟨k, hk, hk10, rfl, HR, HB⟩ := hrel
    have hsz := HB.out.size
    by_cases hlt : k < m ∧ k < 10
    · obtain ⟨hkm, hkt⟩ := hlt
      obtain ⟨rfl, hb⟩ := HQ.out (by omega)
      obtain ⟨hc0', hv0, hv1⟩ := HV.out k hkm
      have hc := ((B1.trans (HB.out.mono (by omega))).cell (p := ⟨b, off + k, none⟩) hb).trans hc0'
      have hin : inW b wr = true := inW_iff.2 (by omega)
      have HMS := Lib.hid (mods_succ V k)
      have HZ := Lib.hid (show (rowW (rowOf (mods V k))).size = 16 by rw [rowW_size, rowOf_len])
      have HLR := Lib.hid (rowOf_len (mods V k))
      clear hc0'
      generalize V k = x at hc hv0 hv1 HMS
      go_wp2_with (fail)
      refine wp_region_tail 8 (by kernel_rfl) (by kernel_rfl) (by kernel_rfl) ?_
      simp only [List.take_succ_cons, List.take_zero, List.drop_succ_cons, List.drop_zero]
      refine wpQuiet_load_row (by kernel_rfl) 25 (.tmp 5) rfl w1.heap.size (rowW (rowOf (mods V k))) 25 _ rfl (by rintro _ ⟨x, rfl⟩; exact (BlkAt.below HR (below_beyond _ _)).all) Tryd.underlying25 rfl (by rw [HZ.out]; exact sInfo) ?_
      simp only [Act.put, List.setIfInBounds_toArray, List.set_cons_succ, List.set_cons_zero]
      repeat (go_big_quiet_step ((go_at_call 25; exact quiet_beyond (wset_calls HLR.out _ _))))
      refine wpQuiet_nil ?_
      rintro _ ⟨yq, rfl⟩
      go_wp2_with (refine wpList_store_over rfl 25 (.tmp 5) (.tmp 32) rfl (rowW (withS (rowOf (mods V k)) (x % 1024))) 25 _ _ rfl (by first | (with_reducible assumption) | (refine BlkAt.below (by with_reducible assumption) ?_; exact (by repeat (first | assumption | exact Below.refl _ _ | exact below_beyond _ _ | refine Below.beyond ?_ (by (try simp [size_beyond]) <;> omega) _ | refine Below.drew ?_ | refine Go.Rw.below_drewN ?_ _ | refine Go.Rw.below_setRow ?_ (by (try simp [size_beyond]) <;> omega) _ | refine Below.alloc ?_ (by (try simp [size_beyond]) <;> omega) _ | refine Below.setCell ?_ (by (try simp [size_beyond]) <;> omega) _)))) rfl (by rw [rowW_size, withS_len, HLR.out]; exact sInfo) (by rw [rowW_size, rowW_size, withS_len]) (rowW_one _) ?_; intro wz hk KZ hbz; have HBZ := Lib.hid hbz; clear hk hbz)
      go_roundw
      case rel => exact ⟨k + 1, by omega, by omega, by go_num, by rw [HMS.out, rowOf_snoc]; exact KZ, Lib.hid (HB.out.trans (Below.trans (by repeat (first | assumption | exact Below.refl _ _ | exact below_beyond _ _ | refine Below.beyond ?_ (by (try simp [size_beyond]) <;> omega) _ | refine Below.drew ?_ | refine Go.Rw.below_drewN ?_ _ | refine Go.Rw.below_setRow ?_ (by (try simp [size_beyond]) <;> omega) _ | refine Below.alloc ?_ (by (try simp [size_beyond]) <;> omega) _ | refine Below.setCell ?_ (by (try simp [size_beyond]) <;> omega) _)) HBZ.out))⟩
      case measure => simp [intOf]; omega
    · have hml := mods_len V k
      have HXL := Lib.hid (rowOf_len (mods V k))
      have HEL := Lib.hid (show (elems (rowOf (mods V k))).length ≤ 10 by rw [elems_rowOf]; have := ofL_len (mods V k); omega)
      clear hml
      generalize rowOf (mods V k) = xs at HR HXL HEL
      have HZ := Lib.hid (show (rowW xs).size = 16 by rw [rowW_size, HXL.out])
      have hcase : ¬ (k < m) ∨ (k < m ∧ 10 ≤ k) := by omega
      clear hlt
      have HIL := Lib.hid (show (elems xs).length ≤ 999000 by have := HEL.out; omega)
      rename_i K0 hK0
      have H : ∀ s15 s16 s17 s18 s19 s20 s21 s22 : Value, K0 ({ tmps := #[.slice q m c, .int .u16 s, undef, .pointer (some ⟨W0.heap.size, 0, none⟩), .pointer (some ⟨W0.heap.size + 1, 0, none⟩), .pointer (some ⟨w1.heap.size, 0, none⟩), .int .i64 (k : Int), undef, undef, undef, undef, undef, undef, .bool true, .bool false, s15, s16, s17, s18, s19, s20, s21, s22, u23, u24, u25, u26, u27, u28, u29, u30, u31, u32, undef, undef, undef, undef, undef, undef, undef, undef, undef, undef, undef, undef, undef, undef, undef, undef, undef, undef, undef, undef, undef, undef, undef, undef, undef, undef, undef, undef, undef, undef, undef, undef, undef, undef, undef, undef, undef, undef, undef, undef, undef, undef, undef, undef, undef, undef, undef, undef, undef, undef, undef, undef, undef, undef, undef], defers := [] } : Act) wr := by
        intro s15 s16 s17 s18 s19 s20 s21 s22
        refine hK0 _ _ ?_
        go_wp2_with (refine wpList_load_any (by kernel_rfl) 25 (.tmp 5) rfl _ (rowW xs) 25 _ rfl (BlkAt.all (by first | (with_reducible assumption) | (refine BlkAt.below (by with_reducible assumption) ?_; exact (by repeat (first | assumption | exact Below.refl _ _ | exact below_beyond _ _ | refine Below.beyond ?_ (by (try simp [size_beyond]) <;> omega) _ | refine Below.drew ?_ | refine Go.Rw.below_drewN ?_ _ | refine Go.Rw.below_setRow ?_ (by (try simp [size_beyond]) <;> omega) _ | refine Below.alloc ?_ (by (try simp [size_beyond]) <;> omega) _ | refine Below.setCell ?_ (by (try simp [size_beyond]) <;> omega) _))))) Tryd.underlying25 rfl (by rw [HZ.out]; exact sInfo) ?_)
        go_at_call 18
        refine (to_at HXL.out _).mono ?_
        rintro e w2 ⟨q2, m2, c2, y2, rfl, hw2, H2⟩
        have B2 := Lib.hid (show Below w1.heap.size w1 w2 from hw2 ▸ HB.out.trans ((below_beyond _ _).mono hsz))
        have K2 : BlkAt w1.heap.size (rowW xs) 25 w2 := hw2 ▸ HR.below (below_beyond _ _)
        clear hw2 HR HB
        go_wp2_with (fail)
        go_at_call 47
        refine (subs_calls H2 HEL.out).mono ?_
        rintro e w3 ⟨q3, m3, c3, y3, rfl, hw3, H3⟩
        have B3 := Lib.hid (show Below w1.heap.size w1 w3 from hw3 ▸ B2.out.trans ((below_beyond _ _).mono B2.out.size))
        have K3 : BlkAt w1.heap.size (rowW xs) 25 w3 := hw3 ▸ K2.below (below_beyond _ _)
        have hs3 : w1.heap.size + 1 ≤ w3.heap.size := by have := K3.lt; omega
        clear hw3 K2 H2 B2
        have HW : ∃ Wa, Wa = w3.alloc (.cells #[.slice q3 m3 c3] 54) := ⟨_, rfl⟩
        obtain ⟨W2, HW2⟩ := HW
        have hs2 : W2.heap.size = w3.heap.size + 1 := by rw [HW2, World.size_alloc]
        have b32 : Below w3.heap.size w3 W2 := by rw [HW2]; exact (by repeat (first | assumption | exact Below.refl _ _ | exact below_beyond _ _ | refine Below.beyond ?_ (by (try simp [size_beyond]) <;> omega) _ | refine Below.drew ?_ | refine Go.Rw.below_drewN ?_ _ | refine Go.Rw.below_setRow ?_ (by (try simp [size_beyond]) <;> omega) _ | refine Below.alloc ?_ (by (try simp [size_beyond]) <;> omega) _ | refine Below.setCell ?_ (by (try simp [size_beyond]) <;> omega) _))
        have V4 : blockOf W2 w3.heap.size = some (.cells #[.slice q3 m3 c3] 54 (0, 0)) := by rw [HW2]; exact blockOf_alloc_at _ _ _ rfl
        have K4 : BlkAt w1.heap.size (rowW xs) 25 W2 := K3.below b32
        have A4 : SubsAt q3 m3 c3 (subsL (elems xs)) W2 := H3.below b32
        have B4 : Below w1.heap.size w1 W2 := B3.out.trans (b32.mono (by omega))
        have S4 := (B4.block W0.heap.size (by omega)).trans S1
        have R4 := (B4.block (W0.heap.size + 1) (by omega)).trans R1
        have B5 : Below W0.heap.size W0 W2 := B1.trans (B4.mono (by omega))
        clear b32 H3 B3 S1 R1
        go_wp2_with (refine wpList_load_any (by kernel_rfl) 25 (.tmp 5) rfl _ (rowW xs) 25 _ rfl (BlkAt.below K3 (by repeat (first | assumption | exact Below.refl _ _ | exact below_beyond _ _ | refine Below.beyond ?_ (by (try simp [size_beyond]) <;> omega) _ | refine Below.drew ?_ | refine Go.Rw.below_drewN ?_ _ | refine Go.Rw.below_setRow ?_ (by (try simp [size_beyond]) <;> omega) _ | refine Below.alloc ?_ (by (try simp [size_beyond]) <;> omega) _ | refine Below.setCell ?_ (by (try simp [size_beyond]) <;> omega) _))).all Tryd.underlying25 rfl (by rw [HZ.out]; exact sInfo) ?_)
        go_at_call 48
        rw [← HW2, ← hs2]
        have HS2 := Lib.hid hs2
        clear K3 HW2 hs2
        refine (subsets_calls xs _).mono ?_
        rintro e w5 ⟨rfl, rfl⟩
        go_wp2_with (fail)
        have bN := Boxed.new W2 3 (.int .i64 0)
        have hB0 : Below W2.heap.size W2 (((W2.alloc (.cells #[.int .i64 0] 3)).alloc (.cells #[.int .u64 0, .int .u64 0, .int .u64 0, .int .u64 0, .int .u64 0, .int .u64 0, .int .u64 0, .int .u64 0, .int .u64 0, .int .u64 0, .int .u64 0, .int .u64 0, .int .u64 0, .int .u64 0, .int .u64 0, .int .u64 0] 25)).alloc (.cells (rowW xs) 25)) := (by repeat (first | assumption | exact Below.refl _ _ | exact below_beyond _ _ | refine Below.beyond ?_ (by (try simp [size_beyond]) <;> omega) _ | refine Below.drew ?_ | refine Go.Rw.below_drewN ?_ _ | refine Go.Rw.below_setRow ?_ (by (try simp [size_beyond]) <;> omega) _ | refine Below.alloc ?_ (by (try simp [size_beyond]) <;> omega) _ | refine Below.setCell ?_ (by (try simp [size_beyond]) <;> omega) _))
        have hTc := TZ.out.belowN h0 (B5.trans (hB0.mono (by have := B5.size; omega)))
        have hK9 : BlkAt (W2.heap.size + 1) (rowW zeros) 25 (((W2.alloc (.cells #[.int .i64 0] 3)).alloc (.cells #[.int .u64 0, .int .u64 0, .int .u64 0, .int .u64 0, .int .u64 0, .int .u64 0, .int .u64 0, .int .u64 0, .int .u64 0, .int .u64 0, .int .u64 0, .int .u64 0, .int .u64 0, .int .u64 0, .int .u64 0, .int .u64 0] 25)).alloc (.cells (rowW xs) 25)) :=
          BlkAt.below (W := (W2.alloc (.cells #[.int .i64 0] 3)).alloc (.cells (rowW zeros) 25)) ⟨blockOf_alloc_at _ _ _ (by simp)⟩ (by repeat (first | assumption | exact Below.refl _ _ | exact below_beyond _ _ | refine Below.beyond ?_ (by (try simp [size_beyond]) <;> omega) _ | refine Below.drew ?_ | refine Go.Rw.below_drewN ?_ _ | refine Go.Rw.below_setRow ?_ (by (try simp [size_beyond]) <;> omega) _ | refine Below.alloc ?_ (by (try simp [size_beyond]) <;> omega) _ | refine Below.setCell ?_ (by (try simp [size_beyond]) <;> omega) _))
        have hs5 := B5.size
        have hs4 := B4.size
        refine (wpIn_wide (n := 5)).1 ?_
        refine wpIn_rangeFunc_ownH rfl (by omega) (gf := 58) (lb := #[.pointer (some ⟨W2.heap.size + 1 + 1, 0, none⟩)]) rfl trivial (enters_of Tryd.func58 (by kernel_rfl) rfl)
          (subs_stops 4 (W2.heap.size + 1 + 1) (fun k => k = W2.heap.size ∨ k = W2.heap.size + 1) HXL.out HEL.out _ (by simp; omega) (by omega) (T := 25) (by omega) (by simp) (by simp) (by simp [go_sem]) hTc) keepsC_t (fun W l o o' _ hl hc _ => keepsC_b W l o o' hl hc) (Below.refl _ _) (fun _ => rfl)
          (fun pre W => ((Boxed W W2.heap.size 3 (.int .i64 (pre.length : Nat)) ∧ pre.map rowOf <+: (subsL (elems xs)).map rowOf) ∧ BlkAt (W2.heap.size + 1) (rowW (rowOf (pre.getLast?.getD []))) 25 W) ∧ Below W2.heap.size W2 W)
          (fun c pre W => match c with
            | .exit k => (Boxed W W2.heap.size 3 (.int .i64 (pre.length : Nat)) ∧ (k = 2 ∧ ((pre.length : Nat) : Int) = s)) ∧ Below W2.heap.size W2 W
            | _ => ¬ pre.map rowOf <+: (subsL (elems xs)).map rowOf)
          (OwnFrom.and (OwnFrom.and (OwnFrom.and (Own.from (boxed_own _ _ (fun pre : List (List Int) => .int .i64 (pre.length : Nat))) _) (ownFrom_pure _ _)) (ownFrom_blk _ _ (fun pre : List (List Int) => rowW (rowOf (pre.getLast?.getD []))) _)) (ownFrom_below (Nat.le_refl _) (by simp; omega)))
          (fun c => by
            cases c
            case exit k => exact OwnFrom.and (OwnFrom.and (Own.from (boxed_own _ _ (fun pre : List (List Int) => .int .i64 (pre.length : Nat))) _) (ownFrom_pure _ _)) (ownFrom_below (Nat.le_refl _) (by simp; omega))
            all_goals exact ownFrom_pure _ _)
          ⟨⟨⟨(bN.alloc _).alloc _, List.nil_prefix⟩, hK9⟩, hB0⟩
          (fun x a' W => ∃ g, a' = (fun (g : Nat) (x : List Int) => ({ tmps := #[.slice q m c, .int .u16 s, undef, .pointer (some ⟨W0.heap.size, 0, none⟩), .pointer (some ⟨W0.heap.size + 1, 0, none⟩), .pointer (some ⟨w1.heap.size, 0, none⟩), .int .i64 (k : Int), .pointer (some ⟨w3.heap.size, 0, none⟩), .pointer (some ⟨W2.heap.size, 0, none⟩), .pointer (some ⟨W2.heap.size + 1, 0, none⟩), .pointer (some ⟨g, 0, none⟩), undef, undef, .bool true, .bool false, s15, s16, s17, s18, s19, s20, s21, s22, u23, u24, u25, u26, u27, u28, u29, u30, u31, u32, .agg (rowW xs), .slice q2 m2 c2, .slice q3 m3 c3, .agg #[.int .u64 0, .int .u64 0, .int .u64 0, .int .u64 0, .int .u64 0, .int .u64 0, .int .u64 0, .int .u64 0, .int .u64 0, .int .u64 0, .int .u64 0, .int .u64 0, .int .u64 0, .int .u64 0, .int .u64 0, .int .u64 0], .agg (rowW xs), .func (.func 58) #[] #[.pointer (some ⟨W2.heap.size + 1 + 1, 0, none⟩)], .agg (rowW (rowOf x)), undef, undef, undef, undef, undef, undef, undef, undef, undef, undef, undef, undef, undef, undef, undef, undef, undef, undef, undef, undef, undef, undef, undef, undef, undef, undef, undef, undef, undef, undef, undef, undef, undef, undef, undef, undef, undef, undef, undef, undef, undef, undef, undef, undef, undef, undef, undef, undef], defers := [] } : Act)) g x ∧ (BlkAt g (rowW (rowOf x)) 25 W ∧ (g ≠ W2.heap.size ∧ g ≠ W2.heap.size + 1)))
          ?hax ?assign ?body ?done ?stop
        case assign =>
          rintro l pre x W K ⟨⟨⟨hn, hp⟩, hb9⟩, hB⟩ hK
          have HZx := Lib.hid (show (rowW (rowOf x)).size = 16 by rw [rowW_size, rowOf_len])
          have h9 := hb9.lt
          gi_wp2_with (refine wpListIn_store_fresh (wideF_1 l) (fun ⟨_, _, e⟩ => e) rfl 25 (.tmp 10) (.tmp 39) rfl (rowW (rowOf x)) 25 _ _ rfl rfl rfl (by rw [HZx.out]; exact sInfo) (by rw [HZx.out] <;> rfl) (rowW_one _) ?_; intro w' hb' K')
          obtain ⟨g, hg⟩ : ∃ g, g = W.heap.size := ⟨_, rfl⟩
          rw [← hg] at K' ⊢
          exact hK _ _ (KeepsFrom.of_grownBy (grown_of_below hb') (fun j e => by cases e)) (KeepsCells.of_below hb') ⟨⟨⟨hn.kept (grown_of_below hb') (by simp), hp⟩, hb9.below hb'⟩, hB.trans (hb'.mono hB.size)⟩ ⟨g, rfl, K', by omega, by omega⟩
        case hax => exact fun x a' => ownFrom_ax _ _ _ _ _
        case body =>
          rintro l pre x a' W hl ⟨rec, hrec⟩ ⟨⟨⟨hn, hp⟩, hb9⟩, hB⟩ ⟨g, rfl, hx10, hg1, hg2⟩ hlt
          obtain ⟨h31, h32, h33, h34, b3, rfl, hb3, hcells⟩ := A4.all
          obtain rfl := h31
          have hlen3 := h32
          have h98 := hb9.lt
          have hin8 : inW W2.heap.size W = true := inW_iff.2 (by omega)
          have hin7 : inW w3.heap.size W = true := inW_iff.2 (by have := HS2.out; omega)
          have hinb3 : inW b3 W = true := inW_iff.2 (by omega)
          have hc8 := hn.cell
          have hc7 : W.cell? ⟨w3.heap.size, 0, none⟩ = some (.slice (some ⟨b3, 0, none⟩) (subsL (elems xs)).length c3) := by
            have := (hB.block w3.heap.size (by have := HS2.out; omega)).trans V4
            simp [World.cell?, this]
          have HL := Lib.hid (subsL_chain (sorted_ofP (bitAt xs)))
          have HSub := Lib.hid (subsL_sub (elems xs))
          by_cases h2 : pre.length < (subsL (elems xs)).length
          · obtain ⟨t, ht⟩ : ∃ t, (subsL (elems xs))[pre.length]? = some t := ⟨_, List.getElem?_eq_getElem h2⟩
            obtain ⟨g2, c2', hcl, hrow⟩ := hcells _ t ht
            have hcl := (hB.cell (p := ⟨b3, pre.length, none⟩) hb3).trans hcl
            have hrow : RowAt 3 g2 c2' t W := hrow.below hB
            have htl : t.length ≤ 999000 := by have := (HSub.out t (List.mem_of_getElem? ht)).length_le; have := HIL.out; omega
            have HIA := Lib.hid (hrow.isAt htl)
            have HTt := Lib.hid ht
            have HZx := Lib.hid (show (rowW (rowOf x)).size = 16 by rw [rowW_size, rowOf_len])
            clear hcells ht hrow
            gi_wp2_with (fail)
            refine wpIn_region_quiet_round (fun w' => ∃ y, w' = beyond W y) (by kernel_rfl) (by kernel_rfl) (wideF_1 l) (fun ⟨_, _, e⟩ => e) (by kernel_rfl) (beyond_of (by repeat (first | assumption | exact Below.refl _ _ | exact below_beyond _ _ | refine Below.beyond ?_ (by (try simp [size_beyond]) <;> omega) _ | refine Below.drew ?_ | refine Go.Rw.below_drewN ?_ _ | refine Go.Rw.below_setRow ?_ (by (try simp [size_beyond]) <;> omega) _ | refine Below.alloc ?_ (by (try simp [size_beyond]) <;> omega) _ | refine Below.setCell ?_ (by (try simp [size_beyond]) <;> omega) _))) ?_
            iterate 5 (go_big_quiet_step (fail))
            rw [show decide ((subsL (elems xs)).length ≤ pre.length) = false from decide_eq_false (by omega)]
            refine wpQuiet_load_row (by kernel_rfl) 25 (.tmp 10) rfl g (rowW (rowOf x)) 25 _ rfl (by rintro _ ⟨y, rfl⟩; exact (BlkAt.below hx10 (below_beyond _ _)).all) Tryd.underlying25 rfl (by rw [HZx.out]; exact sInfo) ?_
            simp only [Act.put, List.setIfInBounds_toArray, List.set_cons_succ, List.set_cons_zero]
            iterate 5 (go_big_quiet_step ((go_at_call 46; exact quiet_beyond (from_at (HIA.out.below (below_beyond _ _))))))
            refine wpQuiet_neRow (by kernel_rfl) (.tmp 45) (.tmp 50) rfl sU wU wI sG (rowOf_len x) (rowOf_len t) rfl rfl ?_
            simp only [Act.put, List.setIfInBounds_toArray, List.set_cons_succ, List.set_cons_zero]
            by_cases hxt : rowOf x = rowOf t
            · rw [decide_eq_true hxt]
              have HXT := Lib.hid hxt; clear hxt
              repeat (go_big_quiet_step (fail))
              refine wpQuiet_nil ?_
              rintro _ ⟨y5, rfl⟩
              have hbb : Below W.heap.size W (beyond W y5) := below_beyond _ _
              obtain ⟨Wb, hWb⟩ : ∃ Wb, Wb = beyond W y5 := ⟨_, rfl⟩
              rw [← hWb] at hbb ⊢
              clear hWb
              have hn := hn.kept (grown_of_below hbb) (by simp)
              have hb9 := hb9.below hbb
              have hx10 := hx10.below hbb
              have hK4 := (K4.below hB).below hbb
              have hT4 := Lib.hid ((TZ.out.belowN h0 (B5.trans (hB.mono (by omega)))).belowN h0 (hbb.mono (by omega)))
              have O1 := Lib.hid (show KeptBut (fun k => k = W2.heap.size ∨ k = W2.heap.size + 1) W Wb from .of_below hbb)
              have hsb := hbb.size
              have hc8 := hn.cell
              have hf8 := hn.frozen
              by_cases h00 : pre = []
              · have hl0 : pre.length ≤ 0 := by rw [h00]; exact Nat.le_refl _
                by_cases hst : (1 : Int) = s
                · gi_wp2_with (first | (refine wpListIn_loadRow (wideF_1 l) (by kernel_rfl) 25 (.tmp 10) rfl g (rowW (rowOf x)) 25 _ rfl hx10.all Tryd.underlying25 rfl (by rw [HZx.out]; exact sInfo) ?_) | (refine wpListIn_store_over (wideF_1 l) (fun ⟨_, _, e⟩ => e) rfl 25 (.tmp 9) (.tmp 68) rfl (rowW (rowOf x)) 25 _ _ rfl hb9 rfl (by rw [HZx.out]; exact sInfo) (by rw [HZx.out, rowW_size, rowOf_len]) (rowW_one _) ?_; intro w6 hk6 hs6 K6 hb6; have hn6 : Boxed w6 W2.heap.size 3 (.int .i64 (pre.length : Nat)) := (hk6 W2.heap.size (by omega)).trans hn; have O2 := O1.trans (⟨hb6.os, hb6.tape, hb6.output, hb6.size, fun k _ hk => hk6 k (fun e => hk (.inr e))⟩ : KeptBut (fun k => k = W2.heap.size ∨ k = W2.heap.size + 1) Wb w6); have hc8 := hn6.cell; have hf8 := hn6.frozen; have B6 := hB.trans (O2.below (B := W2.heap.size) (fun k hk => by omega) hB.size); have SC : w6.cell? ⟨W0.heap.size, 0, none⟩ = some (.int .u16 s) := (by have := (B6.block W0.heap.size (by omega)).trans S4; simp [World.cell?, this]); clear hk6 hs6 hb6 hn hb9))
                  have e : (((pre ++ [x]).length : Nat) : Int) = s := by simp; omega
                  have O3 := O2.trans (KeptBut.setCell (X := fun k => k = W2.heap.size ∨ k = W2.heap.size + 1) w6 W2.heap.size (.int .i64 s) (.inl rfl))
                  have hb7 := B6.setCell (p := ⟨W2.heap.size, 0, none⟩) (Nat.le_refl _) (.int .i64 s)
                  exact ⟨O3.from (fun k hk => by simp; omega), ⟨by rw [e]; exact hn6.set _, rfl, by rw [e]⟩, hb7⟩
                · gi_wp2_with (first | (refine wpListIn_loadRow (wideF_1 l) (by kernel_rfl) 25 (.tmp 10) rfl g (rowW (rowOf x)) 25 _ rfl hx10.all Tryd.underlying25 rfl (by rw [HZx.out]; exact sInfo) ?_) | (refine wpListIn_store_over (wideF_1 l) (fun ⟨_, _, e⟩ => e) rfl 25 (.tmp 9) (.tmp 68) rfl (rowW (rowOf x)) 25 _ _ rfl hb9 rfl (by rw [HZx.out]; exact sInfo) (by rw [HZx.out, rowW_size, rowOf_len]) (rowW_one _) ?_; intro w6 hk6 hs6 K6 hb6; have hn6 : Boxed w6 W2.heap.size 3 (.int .i64 (pre.length : Nat)) := (hk6 W2.heap.size (by omega)).trans hn; have O2 := O1.trans (⟨hb6.os, hb6.tape, hb6.output, hb6.size, fun k _ hk => hk6 k (fun e => hk (.inr e))⟩ : KeptBut (fun k => k = W2.heap.size ∨ k = W2.heap.size + 1) Wb w6); have hc8 := hn6.cell; have hf8 := hn6.frozen; have B6 := hB.trans (O2.below (B := W2.heap.size) (fun k hk => by omega) hB.size); have SC : w6.cell? ⟨W0.heap.size, 0, none⟩ = some (.int .u16 s) := (by have := (B6.block W0.heap.size (by omega)).trans S4; simp [World.cell?, this]); clear hk6 hs6 hb6 hn hb9))
                  have e : (((pre ++ [x]).length : Nat) : Int) = (1 : Int) := by simp; omega
                  have O3 := O2.trans (KeptBut.setCell (X := fun k => k = W2.heap.size ∨ k = W2.heap.size + 1) w6 W2.heap.size (.int .i64 (1 : Int)) (.inl rfl))
                  have hb7 := B6.setCell (p := ⟨W2.heap.size, 0, none⟩) (Nat.le_refl _) (.int .i64 (1 : Int))
                  exact ⟨O3.from (fun k hk => by simp; omega), O3.cells, ⟨⟨by rw [e]; exact hn6.set _, by rw [List.map_append]; exact pre_snocG hp (by rw [List.getElem?_map, List.length_map, HTt.out, HXT.out]; rfl)⟩, by simpa using K6.keeps (X := fun k => k = W2.heap.size) (KeptBut.setCell (X := fun k => k = W2.heap.size) w6 W2.heap.size _ rfl).cells (by omega)⟩, hb7⟩
              · obtain ⟨sp, hsp, hspr⟩ := last_row hp h00
                have hlp : 0 < pre.length := List.length_pos_iff.2 h00
                have hnx : nextL (elems (rowOf (pre.getLast?.getD []))) (elems xs) = (t, true) := by
                  have h1 := HSub.out sp (List.mem_of_getElem? hsp)
                  rw [hspr, elems_part h1, nextL_part h1]
                  exact HL.out.1 (pre.length - 1) sp t hsp (by rw [Nat.sub_add_cancel hlp]; exact HTt.out)
                have HC := nset_calls (rowOf_len (pre.getLast?.getD [])) HXL.out Wb hT4.out
                rw [hnx] at HC
                have HC := Lib.hid HC
                clear hnx hsp hspr h00
                gi_wp2_with (first | (refine wpListIn_loadRow (wideF_1 l) (by kernel_rfl) 25 (.tmp 9) rfl (W2.heap.size + 1) (rowW (rowOf (pre.getLast?.getD []))) 25 _ rfl hb9.all Tryd.underlying25 rfl (by rw [rowW_size, rowOf_len]; exact sInfo) ?_) | (refine wpListIn_loadRow (wideF_1 l) (by kernel_rfl) 25 (.tmp 5) rfl w1.heap.size (rowW xs) 25 _ rfl hK4.all Tryd.underlying25 rfl (by rw [HZ.out]; exact sInfo) ?_))
                refine ⟨trivial, ?_⟩
                refine ((wideF_1 l).calls HC.out).mono ?_
                rintro e Wc ⟨rfl, hWc⟩
                have hbc : Below Wb.heap.size Wb Wc := by obtain ⟨y, rfl⟩ := hWc; exact below_beyond _ _
                have hsc := hbc.size
                clear hWc hc8 hf8
                gi_wp2_with (first | (refine wpListIn_store_fresh (wideF_1 l) (fun ⟨_, _, e⟩ => e) rfl 25 (.tmp 11) (.tmp 59) rfl (rowW (rowOf t)) 25 _ _ rfl rfl rfl (by rw [rowW_size, rowOf_len]; exact sInfo) (by rw [rowW_size, rowOf_len] <;> rfl) (rowW_one _) ?_; intro w7 hb7 KF; have hbc2 := hbc.trans (hb7.mono hsc); have hn := hn.kept (grown_of_below hbc2) (by simp); have hb9 := hb9.below hbc2; have hx10 := hx10.below hbc2; have O1 := O1.trans (.of_below hbc2); have hc8 := hn.cell; clear hb7 hbc2) | (refine wpListIn_loadRow (wideF_1 l) (by kernel_rfl) 25 (.tmp 11) rfl Wc.heap.size (rowW (rowOf t)) 25 _ rfl KF.all Tryd.underlying25 rfl (by rw [rowW_size, rowOf_len]; exact sInfo) ?_; simp only [Act.put, List.setIfInBounds_toArray, List.set_cons_succ, List.set_cons_zero]) | (refine wpListIn_loadRow (wideF_1 l) (by kernel_rfl) 25 (.tmp 10) rfl g (rowW (rowOf x)) 25 _ rfl hx10.all Tryd.underlying25 rfl (by rw [HZx.out]; exact sInfo) ?_; simp only [Act.put, List.setIfInBounds_toArray, List.set_cons_succ, List.set_cons_zero]) | (refine wpListIn_neRow (wideF_1 l) (by kernel_rfl) (.tmp 64) (.tmp 65) rfl sU wU wI sG (rowOf_len t) (rowOf_len x) rfl rfl ?_; rw [decide_eq_true HXT.out.symm]; simp only [Act.put, List.setIfInBounds_toArray, List.set_cons_succ, List.set_cons_zero]) | (refine wpListIn_store_over (wideF_1 l) (fun ⟨_, _, e⟩ => e) rfl 25 (.tmp 9) (.tmp 68) rfl (rowW (rowOf x)) 25 _ _ rfl hb9 rfl (by rw [HZx.out]; exact sInfo) (by rw [HZx.out, rowW_size, rowOf_len]) (rowW_one _) ?_; intro w6 hk6 hs6 K6 hb6; have hn6 : Boxed w6 W2.heap.size 3 (.int .i64 (pre.length : Nat)) := (hk6 W2.heap.size (by omega)).trans hn; have O2 := O1.trans (⟨hb6.os, hb6.tape, hb6.output, hb6.size, fun k _ hk => hk6 k (fun e => hk (.inr e))⟩ : KeptBut (fun k => k = W2.heap.size ∨ k = W2.heap.size + 1) w7 w6); have hc8 := hn6.cell; have hf8 := hn6.frozen; have B6 := hB.trans (O2.below (B := W2.heap.size) (fun k hk => by omega) hB.size); have SC : w6.cell? ⟨W0.heap.size, 0, none⟩ = some (.int .u16 s) := (by have := (B6.block W0.heap.size (by omega)).trans S4; simp [World.cell?, this]); clear hk6 hs6 hb6 hn hb9))
                all_goals
                  rename_i hq
                  have e : (((pre ++ [x]).length : Nat) : Int) = ((pre.length : Int) + 1) := by simp
                  have O3 := O2.trans (KeptBut.setCell (X := fun k => k = W2.heap.size ∨ k = W2.heap.size + 1) w6 W2.heap.size (.int .i64 ((pre.length : Int) + 1)) (.inl rfl))
                  have hb7 := B6.setCell (p := ⟨W2.heap.size, 0, none⟩) (Nat.le_refl _) (.int .i64 ((pre.length : Int) + 1))
                · exact ⟨O3.from (fun k hk => by simp; omega), ⟨by rw [e]; exact hn6.set _, rfl, by rw [e]; exact beq_iff_eq.1 hq⟩, hb7⟩
                · exact ⟨O3.from (fun k hk => by simp; omega), O3.cells, ⟨⟨by rw [e]; exact hn6.set _, by rw [List.map_append]; exact pre_snocG hp (by rw [List.getElem?_map, List.length_map, HTt.out, HXT.out]; rfl)⟩, by simpa using K6.keeps (X := fun k => k = W2.heap.size) (KeptBut.setCell (X := fun k => k = W2.heap.size) w6 W2.heap.size _ rfl).cells (by omega)⟩, hb7⟩
            · rw [decide_eq_false hxt]
              repeat (go_big_quiet_step (fail))
              refine wpQuiet_nil ?_
              rintro _ ⟨y5, rfl⟩
              have R7 : Boxed (beyond W y5) (W0.heap.size + 1) 4 (.bool false) := ((below_beyond W y5).block (W0.heap.size + 1) (by omega)).trans ((hB.block (W0.heap.size + 1) (by omega)).trans R4)
              have RC := R7.cell
              have RF := R7.frozen
              gi_wp2
              exact ⟨(KeepsFrom.of_grownBy (grown_of_below (below_beyond W y5)) (fun j e => by cases e)).trans ((KeepsOthers.setCell _ _ _).from _), fun h => hxt (by
                rw [List.map_append] at h
                have := pre_atG h
                rw [List.getElem?_map, List.length_map, HTt.out] at this
                exact (Option.some.inj this).symm)⟩
          · gi_wp2_with (fail)
            refine wpIn_region_quiet_round (fun w' => ∃ y, w' = beyond W y) (by kernel_rfl) (by kernel_rfl) (wideF_1 l) (fun ⟨_, _, e⟩ => e) (by kernel_rfl) (beyond_of (by repeat (first | assumption | exact Below.refl _ _ | exact below_beyond _ _ | refine Below.beyond ?_ (by (try simp [size_beyond]) <;> omega) _ | refine Below.drew ?_ | refine Go.Rw.below_drewN ?_ _ | refine Go.Rw.below_setRow ?_ (by (try simp [size_beyond]) <;> omega) _ | refine Below.alloc ?_ (by (try simp [size_beyond]) <;> omega) _ | refine Below.setCell ?_ (by (try simp [size_beyond]) <;> omega) _))) ?_
            iterate 5 (go_big_quiet_step (fail))
            rw [show decide ((subsL (elems xs)).length ≤ pre.length) = true from decide_eq_true (by omega)]
            repeat (go_big_quiet_step (fail))
            refine wpQuiet_nil ?_
            rintro _ ⟨y5, rfl⟩
            have R7 : Boxed (beyond W y5) (W0.heap.size + 1) 4 (.bool false) := ((below_beyond W y5).block (W0.heap.size + 1) (by omega)).trans ((hB.block (W0.heap.size + 1) (by omega)).trans R4)
            have RC := R7.cell
            have RF := R7.frozen
            gi_wp2
            exact ⟨(KeepsFrom.of_grownBy (grown_of_below (below_beyond W y5)) (fun j e => by cases e)).trans ((KeepsOthers.setCell _ _ _).from _), fun h => by have := h.length_le; simp at this; omega⟩
        case done =>
          rintro D ys W hD rfl ⟨⟨⟨hn, hp⟩, hb9⟩, hB⟩ hK
          obtain ⟨h31, h32, h33, h34, b3, rfl, hb3, hcells⟩ := A4.all
          obtain rfl := h31
          clear hp hcells
          have hs41 := hB.size
          have hBX : Below W0.heap.size W0 W := B5.trans (hB.mono (by omega))
          go_wp2_with (fail)
          go_at_call 24
          refine (KK.out W hBX).mono ?_
          rintro e w6 ⟨rfl, hw6⟩
          have hB7 : Below W.heap.size W w6 := by obtain ⟨y, rfl⟩ := hw6; exact below_beyond _ _
          clear hw6
          have hs67 := hB7.size
          have hs0X := hBX.size
          simp only [World.size_alloc] at hD
          have hDW := (Array.getElem?_eq_some_iff.1 hK).1
          have MC := (hB7.cell (p := ⟨W2.heap.size, 0, none⟩) hn.lt).trans hn.cell
          have VC6 : w6.cell? ⟨w3.heap.size, 0, none⟩ = some (.slice (some ⟨b3, 0, none⟩) (subsL (elems xs)).length c3) := by
            have := (hB7.block w3.heap.size (by have := HS2.out; omega)).trans ((hB.block w3.heap.size (by have := HS2.out; omega)).trans V4)
            simp [World.cell?, this]
          have SC6 : w6.cell? ⟨W0.heap.size, 0, none⟩ = some (.int .u16 s) := by
            have := (hB7.block W0.heap.size (by omega)).trans ((hB.block W0.heap.size (by omega)).trans S4)
            simp [World.cell?, this]
          have R7 : Boxed w6 (W0.heap.size + 1) 4 (.bool false) := (hB7.block (W0.heap.size + 1) (by omega)).trans ((hB.block (W0.heap.size + 1) (by omega)).trans R4)
          have RC := R7.cell
          have RF := R7.frozen
          have hK1' := (hB7.block D (by omega)).trans hK
          go_wp2
          have hY1 := (KeepsOthers.setCell w6 ⟨W0.heap.size + 1, 0, none⟩ (.bool true)).same D _ hK1' rfl
          have R8 := R7.set (.bool true)
          have BY : Below W0.heap.size W0 (w6.setCell ⟨W0.heap.size + 1, 0, none⟩ (.bool true)) := (hBX.trans (hB7.mono (by omega))).setCell (p := ⟨W0.heap.size + 1, 0, none⟩) (show W0.heap.size ≤ W0.heap.size + 1 by omega) _
          obtain ⟨Y, hY⟩ : ∃ Y, Y = w6.setCell ⟨W0.heap.size + 1, 0, none⟩ (.bool true) := ⟨_, rfl⟩
          rw [← hY] at hY1 R8 BY ⊢
          clear hY
          refine ⟨by simp, .inl ⟨_, _, rfl, run_takeDeferred hY1, ?_⟩⟩
          have R9 := R8.kept (grownBy_putObj' Y D (.deferred none)) (by intro e; cases e; omega)
          have BQ := BY.trans (belowK_b (w := W0) (Nat.le_refl _) Y D _ (.deferred none) (by omega) hY1 rfl rfl)
          exact ⟨_, results_box rfl _ _ _ _ _ rfl R9 Tryd.underlying4, rfl, beyond_of BQ⟩
        case stop =>
          rintro D c pre W hD hpre hI hK
          cases c
          case exit k =>
            obtain ⟨⟨hn, rfl, hs2⟩, hB⟩ := hI
            obtain ⟨h31, h32, h33, h34, b3, rfl, hb3, hcells⟩ := A4.all
            obtain rfl := h31
            refine wpIn_wide.2 ?_
            clear hcells hpre
            by_cases hpl : pre.length = (subsL (elems xs)).length
            · rw [hpl] at hn hs2
              have hs41 := hB.size
              have hBX : Below W0.heap.size W0 W := B5.trans (hB.mono (by omega))
              go_wp2_with (fail)
              go_at_call 24
              refine (KK.out W hBX).mono ?_
              rintro e w6 ⟨rfl, hw6⟩
              have hB7 : Below W.heap.size W w6 := by obtain ⟨y, rfl⟩ := hw6; exact below_beyond _ _
              clear hw6
              have hs67 := hB7.size
              have hs0X := hBX.size
              simp only [World.size_alloc] at hD
              have hDW := (Array.getElem?_eq_some_iff.1 hK).1
              have MC := (hB7.cell (p := ⟨W2.heap.size, 0, none⟩) hn.lt).trans hn.cell
              have VC6 : w6.cell? ⟨w3.heap.size, 0, none⟩ = some (.slice (some ⟨b3, 0, none⟩) (subsL (elems xs)).length c3) := by
                have := (hB7.block w3.heap.size (by have := HS2.out; omega)).trans ((hB.block w3.heap.size (by have := HS2.out; omega)).trans V4)
                simp [World.cell?, this]
              have SC6 : w6.cell? ⟨W0.heap.size, 0, none⟩ = some (.int .u16 s) := by
                have := (hB7.block W0.heap.size (by omega)).trans ((hB.block W0.heap.size (by omega)).trans S4)
                simp [World.cell?, this]
              have R7 : Boxed w6 (W0.heap.size + 1) 4 (.bool false) := (hB7.block (W0.heap.size + 1) (by omega)).trans ((hB.block (W0.heap.size + 1) (by omega)).trans R4)
              have RC := R7.cell
              have RF := R7.frozen
              have hK1' := (hB7.block D (by omega)).trans hK
              go_wp2
              have hY1 := (KeepsOthers.setCell w6 ⟨W0.heap.size + 1, 0, none⟩ (.bool true)).same D _ hK1' rfl
              have R8 := R7.set (.bool true)
              have BY : Below W0.heap.size W0 (w6.setCell ⟨W0.heap.size + 1, 0, none⟩ (.bool true)) := (hBX.trans (hB7.mono (by omega))).setCell (p := ⟨W0.heap.size + 1, 0, none⟩) (show W0.heap.size ≤ W0.heap.size + 1 by omega) _
              obtain ⟨Y, hY⟩ : ∃ Y, Y = w6.setCell ⟨W0.heap.size + 1, 0, none⟩ (.bool true) := ⟨_, rfl⟩
              rw [← hY] at hY1 R8 BY ⊢
              clear hY
              refine ⟨by simp, .inl ⟨_, _, rfl, run_takeDeferred hY1, ?_⟩⟩
              have R9 := R8.kept (grownBy_putObj' Y D (.deferred none)) (by intro e; cases e; omega)
              have BQ := BY.trans (belowK_b (w := W0) (Nat.le_refl _) Y D _ (.deferred none) (by omega) hY1 rfl rfl)
              exact ⟨_, results_box rfl _ _ _ _ _ rfl R9 Tryd.underlying4, rfl, beyond_of BQ⟩
            · have hs41 := hB.size
              have hBX : Below W0.heap.size W0 W := B5.trans (hB.mono (by omega))
              go_wp2_with (fail)
              go_at_call 24
              refine (KK.out W hBX).mono ?_
              rintro e w6 ⟨rfl, hw6⟩
              have hB7 : Below W.heap.size W w6 := by obtain ⟨y, rfl⟩ := hw6; exact below_beyond _ _
              clear hw6
              have hs67 := hB7.size
              have hs0X := hBX.size
              simp only [World.size_alloc] at hD
              have hDW := (Array.getElem?_eq_some_iff.1 hK).1
              have MC := (hB7.cell (p := ⟨W2.heap.size, 0, none⟩) hn.lt).trans hn.cell
              have VC6 : w6.cell? ⟨w3.heap.size, 0, none⟩ = some (.slice (some ⟨b3, 0, none⟩) (subsL (elems xs)).length c3) := by
                have := (hB7.block w3.heap.size (by have := HS2.out; omega)).trans ((hB.block w3.heap.size (by have := HS2.out; omega)).trans V4)
                simp [World.cell?, this]
              have SC6 : w6.cell? ⟨W0.heap.size, 0, none⟩ = some (.int .u16 s) := by
                have := (hB7.block W0.heap.size (by omega)).trans ((hB.block W0.heap.size (by omega)).trans S4)
                simp [World.cell?, this]
              have R7 : Boxed w6 (W0.heap.size + 1) 4 (.bool false) := (hB7.block (W0.heap.size + 1) (by omega)).trans ((hB.block (W0.heap.size + 1) (by omega)).trans R4)
              have RC := R7.cell
              have RF := R7.frozen
              have hK1' := (hB7.block D (by omega)).trans hK
              go_wp2
              have hY1 := (KeepsOthers.setCell w6 ⟨W0.heap.size + 1, 0, none⟩ (.bool true)).same D _ hK1' rfl
              have R8 := R7.set (.bool true)
              have BY : Below W0.heap.size W0 (w6.setCell ⟨W0.heap.size + 1, 0, none⟩ (.bool true)) := (hBX.trans (hB7.mono (by omega))).setCell (p := ⟨W0.heap.size + 1, 0, none⟩) (show W0.heap.size ≤ W0.heap.size + 1 by omega) _
              obtain ⟨Y, hY⟩ : ∃ Y, Y = w6.setCell ⟨W0.heap.size + 1, 0, none⟩ (.bool true) := ⟨_, rfl⟩
              rw [← hY] at hY1 R8 BY ⊢
              clear hY
              refine ⟨by simp, .inl ⟨_, _, rfl, run_takeDeferred hY1, ?_⟩⟩
              have R9 := R8.kept (grownBy_putObj' Y D (.deferred none)) (by intro e; cases e; omega)
              have BQ := BY.trans (belowK_b (w := W0) (Nat.le_refl _) Y D _ (.deferred none) (by omega) hY1 rfl rfl)
              exact ⟨_, results_box rfl _ _ _ _ _ rfl R9 Tryd.underlying4, rfl, beyond_of BQ⟩
          all_goals exact absurd (List.IsPrefix.map rowOf hpre) hI
      clear hK0
      rcases hcase with hcase | ⟨hcase, hk10b⟩
      · go_wp2_with (fail)
        exact H _ _ _ _ _ _ _ _
      · go_wp2_with (fail)
        exact H _ _ _ _ _ _ _ _
end Go.Proofs.YtjneboajbmabbaaDoor.ref1
