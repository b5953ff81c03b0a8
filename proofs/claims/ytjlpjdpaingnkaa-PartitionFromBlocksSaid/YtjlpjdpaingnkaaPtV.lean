/-
  The functions of a partition, told by its list of representatives.
-/
import Derived.Test.YtjlpjdpaingnkaaPtU
import Derived.Test.YtjlpjdpaingnkaaPtN
import Derived.Test.YtjlpjdpaingnkaaRow
set_option linter.unusedSimpArgs false
set_option linter.unusedVariables false
namespace Go.Proofs.Ytjlpjdpaingnkaa.pt
open Go.RowKit Go.Own Go.Pt Go.Rw
set_option maxHeartbeats 4000000
set_option maxRecDepth 100000

theorem tI : (Try.prog.info? 3).map (fun i => (i.zero, i.size, i.bytes)) = some (some (.int .i64 0), 1, 8) := by kernel_rfl
/-- a row of integers that begins with l -/
structure RowAt (g : Nat) (l : List Int) (w : World) : Prop where
  ex : ∃ rest : List Value, w.heap[g]? = some (.cells (l.map (Value.int .i64) ++ rest).toArray 3 (0, 0))
theorem RowAt.lt {g : Nat} {l : List Int} {w : World} (h : RowAt g l w) : g < w.heap.size := by obtain ⟨r, hr⟩ := h.ex; exact (Array.getElem?_eq_some_iff.1 hr).1
theorem RowAt.cell {g : Nat} {l : List Int} {w : World} (h : RowAt g l w) {a : Nat} (ha : a < l.length) : w.cell? ⟨g, a, none⟩ = some (.int .i64 (gv l a)) := by
  obtain ⟨r, hr⟩ := h.ex
  have e : (l.map (Value.int .i64) ++ r)[a]? = some (Value.int .i64 (gv l a)) := by
    rw [List.getElem?_append_left (by simpa using ha), List.getElem?_map, some_gv ha]; rfl
  simp [World.cell?, hr]
  simpa using e
theorem RowAt.frozen {g : Nat} {l : List Int} {w : World} (h : RowAt g l w) (a : Nat) : w.frozen? ⟨g, a, none⟩ = false := by obtain ⟨r, hr⟩ := h.ex; simp [World.frozen?, hr]
theorem RowAt.set {g : Nat} {l : List Int} {w : World} (h : RowAt g l w) {a : Nat} (ha : a < l.length) (x : Int) : RowAt g (l.set a x) (w.setCell ⟨g, a, none⟩ (.int .i64 x)) := by
  obtain ⟨r, hr⟩ := h.ex
  refine ⟨r, ?_⟩
  show (w.heap.modify g _)[g]? = _
  rw [Array.getElem?_modify, if_pos rfl, hr]
  simp [List.map_set, List.set_append, ha]
theorem RowAt.kept {g : Nat} {l : List Int} {w w' : World} (h : RowAt g l w) {X : Nat → Prop} (hk : KeptBut X w w') (h2 : ¬ X g) : RowAt g l w' := by
  obtain ⟨r, hr⟩ := h.ex; exact ⟨r, (hk.block g h.lt h2).trans hr⟩
theorem RowAt.below {g : Nat} {l : List Int} {w w' : World} (h : RowAt g l w) (hk : Below w.heap.size w w') : RowAt g l w' := by
  obtain ⟨r, hr⟩ := h.ex; exact ⟨r, (hk.block g h.lt).trans hr⟩
theorem RowAt.reads {g : Nat} {l : List Int} {w : World} (h : RowAt g l w) : Reads w (some ⟨g, 0, none⟩) l := by
  refine .inr ⟨g, 0, rfl, h.lt, fun i x hx => ?_⟩
  have := h.cell (a := i) (List.getElem?_eq_some_iff.1 hx).1
  rw [Nat.zero_add, this, gv_some hx]
theorem RowAt.made {w : World} {g k B : Nat} (h : w.ownsRow B 3 1 (.slice (some ⟨g, 0, none⟩) k k) k (madeCells #[Value.int .i64 0] k).toList) : RowAt g (List.replicate k 0) w := by
  rcases h.2 with ⟨h, _⟩ | ⟨g', cap, cur, h, hb, hgg, hn, hc, hs, ht⟩
  · cases h
  · cases h
    refine ⟨[], ?_⟩
    rw [hgg]
    congr 2
    have hcur : cur.toList = (madeCells #[Value.int .i64 0] k).toList := by rw [← ht, ← hs, ← Array.length_toList, List.take_length]
    apply Array.toList_inj.1
    rw [hcur]
    refine List.ext_getElem? fun i => ?_
    by_cases hi : i < k
    · simp [madeCells, hi, Nat.mod_one]
    · simp [madeCells, hi]
/-- a partition in block P, its parents in block g, with these representatives -/
structure Pt (P g : Nat) (w : List Int) (W : World) : Prop where
  ex : ∃ c u, Up u ∧ u.length ≤ 4096 ∧ reps u = w ∧ u.length ≤ c ∧ c ≤ maxLen ∧ PtAt P g c u W
theorem Pt.kept {P g : Nat} {w : List Int} {W W' : World} (h : Pt P g w W) {X : Nat → Prop} (hk : KeptBut X W W') (h1 : ¬ X P) (h2 : ¬ X g) : Pt P g w W' := by
  obtain ⟨c, u, h3, h4, h5, h6, h7, h8⟩ := h.ex; exact ⟨c, u, h3, h4, h5, h6, h7, h8.kept hk h1 h2⟩
theorem Pt.below {P g : Nat} {w : List Int} {W W' : World} (h : Pt P g w W) (hb : Below W.heap.size W W') : Pt P g w W' := h.kept (X := fun _ => False) (KeptBut.of_below hb) (fun h => h) (fun h => h)
theorem Pt.rep {P g : Nat} {w : List Int} {W : World} (h : Pt P g w W) : Rep w := by obtain ⟨c, u, h3, h4, h5, _⟩ := h.ex; exact h5 ▸ reps_rep h3
theorem Pt.len {P g : Nat} {w : List Int} {W : World} (h : Pt P g w W) : w.length ≤ 4096 := by obtain ⟨c, u, h3, h4, h5, _⟩ := h.ex; rw [← h5, reps_len]; exact h4
theorem Pt.gl {P g : Nat} {w : List Int} {W : World} (h : Pt P g w W) : g < W.heap.size := by obtain ⟨c, u, h3, h4, h5, h6, h7, h8⟩ := h.ex; exact h8.gl
theorem Pt.pl {P g : Nat} {w : List Int} {W : World} (h : Pt P g w W) : P < W.heap.size := by obtain ⟨c, u, h3, h4, h5, h6, h7, h8⟩ := h.ex; exact h8.pl
theorem Pt.ne {P g : Nat} {w : List Int} {W : World} (h : Pt P g w W) : P ≠ g := by obtain ⟨c, u, h3, h4, h5, h6, h7, h8⟩ := h.ex; exact h8.ne
/-- the partition is now v; nothing but its parents has changed -/
structure Eff (P g : Nat) (v : List Int) (W w' : World) : Prop where
  pt : Pt P g v w'
  kept : KeptBut (· = g) W w'
theorem Eff.trans {P g : Nat} {v v' : List Int} {A B C : World} (h : Eff P g v A B) (h2 : Eff P g v' B C) : Eff P g v' A C := ⟨h2.pt, h.kept.trans h2.kept⟩
theorem Eff.refl {P g : Nat} {v : List Int} {W : World} (h : Pt P g v W) : Eff P g v W W := ⟨h, KeptBut.refl _ _⟩
/-- is a an element -/
def okL (w : List Int) (a : Int) : Bool := decide (0 ≤ a ∧ a < w.length)
theorem okL_nat {w : List Int} {a : Nat} (h : a < w.length) : okL w (a : Int) = true := decide_eq_true ⟨by omega, by omega⟩
theorem okL_iff {w : List Int} {a : Int} : okL w a = true ↔ 0 ≤ a ∧ a < w.length := by simp [okL]
theorem has_pt {P g : Nat} {w : List Int} {W : World} (a : Int) (h : Pt P g w W) :
    Calls Try.prog 40 #[.pointer (some ⟨P, 0, none⟩), .int .i64 a] W fun e w' => e = .returned (.bool (okL w a)) ∧ W = w' := by
  obtain ⟨c, u, h3, h4, rfl, h6, h7, h8⟩ := h.ex
  exact has_calls a (by unfold okL; rw [reps_len]) h8
theorem has_nil (a : Int) (W : World) : Calls Try.prog 40 #[.pointer none, .int .i64 a] W fun e w' => e = .returned (.bool false) ∧ W = w' := by
  go_enter Try.func40, Try.ntmps40
  go_wp2
  go_ret
  exact ⟨rfl, rfl⟩
theorem len_pt {P g : Nat} {w : List Int} {W : World} (h : Pt P g w W) :
    Calls Try.prog 37 #[.pointer (some ⟨P, 0, none⟩)] W fun e w' => e = .returned (.int .i64 (w.length : Nat)) ∧ W = w' := by
  obtain ⟨c, u, h3, h4, rfl, h6, h7, h8⟩ := h.ex
  have hcs := h8.cellP
  rw [reps_len]
  go_enter Try.func37, Try.ntmps37
  go_wp2
  go_ret
  exact ⟨rfl, rfl⟩
theorem len_nil (W : World) : Calls Try.prog 37 #[.pointer none] W fun e w' => e = .returned (.int .i64 0) ∧ W = w' := by
  go_enter Try.func37, Try.ntmps37
  go_wp2
  go_ret
  exact ⟨rfl, rfl⟩
theorem same_eff {P g c : Nat} {u : List Nat} {W w : World} (hn : u.length ≤ 4096) (h1 : u.length ≤ c) (h2 : c ≤ maxLen) (h : Same P g c u W w) : Eff P g (reps u) W w := by
  obtain ⟨u', k1, k2, k3, k4, k5⟩ := h
  exact ⟨⟨c, u', k2, by omega, root_of_same k1 k3, by omega, h2, k4⟩, k5⟩
theorem root_pt {P g a : Nat} {w : List Int} {W : World} (ha : a < w.length) (h : Pt P g w W) :
    Calls Try.prog 42 #[.pointer (some ⟨P, 0, none⟩), .int .i64 (a : Int)] W fun e w' => e = .returned (.int .i64 (gv w a)) ∧ Eff P g w W w' := by
  obtain ⟨c, u, h3, h4, rfl, h6, h7, h8⟩ := h.ex
  rw [reps_len] at ha
  refine (root_calls h3 ha h4 h8).mono fun e w' hh => ⟨?_, same_eff h4 h6 h7 hh.2⟩
  rw [gv_reps ha]; exact hh.1
theorem dec_cast (a b : Nat) : decide (a ≠ b) = decide ((a : Int) ≠ (b : Int)) := decide_eq_decide.2 ⟨fun h e => h (by omega), fun h e => h (by omega)⟩
theorem merge_pt {P g a b : Nat} {w : List Int} {W : World} (ha : a < w.length) (hb : b < w.length) (h : Pt P g w W) :
    Calls Try.prog 41 #[.pointer (some ⟨P, 0, none⟩), .int .i64 (a : Int), .int .i64 (b : Int)] W fun e w' => e = .returned (.bool (decide (gv w a ≠ gv w b))) ∧ Eff P g (joinL w a b) W w' := by
  obtain ⟨c, u, h3, h4, rfl, h6, h7, h8⟩ := h.ex
  rw [reps_len] at ha hb
  refine (merge_calls rfl rfl h3 ha hb h4 h8).mono fun e w' hh => ⟨?_, ?_⟩
  · rw [gv_reps ha, gv_reps hb, hh.1, dec_cast]
  · obtain ⟨u', k1, k2, k3, k4, k5⟩ := hh.2
    exact ⟨⟨c, u', k2, by omega, reps_joined k1 ha hb k3, by omega, h7, k4⟩, k5⟩
theorem union_pt {P g a b : Nat} {w : List Int} {W : World} (ha : a < w.length) (hb : b < w.length) (h : Pt P g w W) :
    Calls Try.prog 15 #[.pointer (some ⟨P, 0, none⟩), .int .i64 (a : Int), .int .i64 (b : Int)] W fun e w' => e = .returned (.tuple #[.bool (decide (gv w a ≠ gv w b)), .int .i64 0]) ∧ Eff P g (joinL w a b) W w' := by
  obtain ⟨c, u, h3, h4, rfl, h6, h7, h8⟩ := h.ex
  rw [reps_len] at ha hb
  refine (union_calls rfl rfl h3 ha hb h4 h8).mono fun e w' hh => ⟨?_, ?_⟩
  · rw [gv_reps ha, gv_reps hb, hh.1, dec_cast]
  · obtain ⟨u', k1, k2, k3, k4, k5⟩ := hh.2
    exact ⟨⟨c, u', k2, by omega, reps_joined k1 ha hb k3, by omega, h7, k4⟩, k5⟩
theorem union_bad {P g : Nat} {w : List Int} {W : World} (a b : Int) (hab : (okL w a && okL w b) = false) (h : Pt P g w W) :
    Calls Try.prog 15 #[.pointer (some ⟨P, 0, none⟩), .int .i64 a, .int .i64 b] W fun e w' => e = .returned (.tuple #[.bool false, .int .i64 1]) ∧ W = w' := by
  have HA := Lib.hid (has_pt a h)
  have HB := Lib.hid (has_pt b h)
  cases ea : okL w a
  · rw [ea] at HA
    go_enter Try.func15, Try.ntmps15
    go_wp2_with (go_at_call 40; refine HA.out.mono ?_; rintro e w1 ⟨rfl, rfl⟩)
    go_ret2
    exact ⟨rfl, rfl⟩
  · rw [ea] at HA hab
    rw [show okL w b = false by simpa using hab] at HB
    go_enter Try.func15, Try.ntmps15
    go_wp2_with (fail)
    go_at_call 40
    refine HA.out.mono ?_
    rintro e w1 ⟨rfl, rfl⟩
    go_wp2_with (go_at_call 40; refine HB.out.mono ?_; rintro e w1 ⟨rfl, rfl⟩)
    go_ret2
    exact ⟨rfl, rfl⟩
theorem union_nil (a b : Int) (W : World) :
    Calls Try.prog 15 #[.pointer none, .int .i64 a, .int .i64 b] W fun e w' => e = .returned (.tuple #[.bool false, .int .i64 1]) ∧ W = w' := by
  go_enter Try.func15, Try.ntmps15
  go_wp2_with (go_at_call 40; refine (has_nil a W).mono ?_; rintro e w1 ⟨rfl, rfl⟩)
  go_ret2
  exact ⟨rfl, rfl⟩
theorem find_pt {P g a : Nat} {w : List Int} {W : World} (ha : a < w.length) (h : Pt P g w W) :
    Calls Try.prog 20 #[.pointer (some ⟨P, 0, none⟩), .int .i64 (a : Int)] W fun e w' => e = .returned (.tuple #[.int .i64 (gv w a), .int .i64 0]) ∧ Eff P g w W w' := by
  obtain ⟨c, u, h3, h4, rfl, h6, h7, h8⟩ := h.ex
  rw [reps_len] at ha
  refine (find_calls h3 ha h4 h8).mono fun e w' hh => ⟨?_, same_eff h4 h6 h7 hh.2⟩
  rw [gv_reps ha]; exact hh.1
theorem find_bad {P g : Nat} {w : List Int} {W : World} (a : Int) (ha : okL w a = false) (h : Pt P g w W) :
    Calls Try.prog 20 #[.pointer (some ⟨P, 0, none⟩), .int .i64 a] W fun e w' => e = .returned (.tuple #[.int .i64 0, .int .i64 1]) ∧ W = w' := by
  have HA := Lib.hid (has_pt a h)
  rw [ha] at HA
  go_enter Try.func20, Try.ntmps20
  go_wp2_with (go_at_call 40; refine HA.out.mono ?_; rintro e w1 ⟨rfl, rfl⟩)
  go_ret2
  exact ⟨rfl, rfl⟩
theorem find_nil (a : Int) (W : World) :
    Calls Try.prog 20 #[.pointer none, .int .i64 a] W fun e w' => e = .returned (.tuple #[.int .i64 0, .int .i64 1]) ∧ W = w' := by
  go_enter Try.func20, Try.ntmps20
  go_wp2_with (go_at_call 40; refine (has_nil a W).mono ?_; rintro e w1 ⟨rfl, rfl⟩)
  go_ret2
  exact ⟨rfl, rfl⟩
/-- are a and b elements of the same block -/
def conL (w : List Int) (a b : Int) : Bool := okL w a && (okL w b && decide (gv w a.toNat = gv w b.toNat))
theorem con_pt {P g : Nat} {w : List Int} {W : World} (a b : Int) (h : Pt P g w W) :
    Calls Try.prog 17 #[.pointer (some ⟨P, 0, none⟩), .int .i64 a, .int .i64 b] W fun e w' => e = .returned (.bool (conL w a b)) ∧ Eff P g w W w' := by
  have HA := Lib.hid (has_pt a h)
  have HB := Lib.hid (has_pt b h)
  unfold conL
  cases ea : okL w a
  · rw [ea] at HA
    go_enter Try.func17, Try.ntmps17
    go_wp2_with (go_at_call 40; refine HA.out.mono ?_; rintro e w1 ⟨rfl, rfl⟩)
    go_ret
    exact ⟨rfl, .refl h⟩
  · rw [ea] at HA
    cases eb : okL w b
    · rw [eb] at HB
      go_enter Try.func17, Try.ntmps17
      go_wp2_with (fail)
      go_at_call 40
      refine HA.out.mono ?_
      rintro e w1 ⟨rfl, rfl⟩
      go_wp2_with (go_at_call 40; refine HB.out.mono ?_; rintro e w1 ⟨rfl, rfl⟩)
      go_ret
      exact ⟨rfl, .refl h⟩
    · rw [eb] at HB
      obtain ⟨a, rfl⟩ := Int.eq_ofNat_of_zero_le (okL_iff.1 ea).1
      obtain ⟨b, rfl⟩ := Int.eq_ofNat_of_zero_le (okL_iff.1 eb).1
      have la : a < w.length := by have := okL_iff.1 ea; omega
      have lb : b < w.length := by have := okL_iff.1 eb; omega
      have HR := Lib.hid (root_pt la h)
      go_enter Try.func17, Try.ntmps17
      go_wp2_with (fail)
      go_at_call 40
      refine HA.out.mono ?_
      rintro e w1 ⟨rfl, rfl⟩
      go_wp2_with (fail)
      go_at_call 40
      refine HB.out.mono ?_
      rintro e w1 ⟨rfl, rfl⟩
      go_wp2_with (fail)
      go_at_call 42
      refine HR.out.mono ?_
      rintro e w1 ⟨rfl, h1⟩
      have HR1 := Lib.hid (root_pt lb h1.pt)
      go_wp2_with (fail)
      go_at_call 42
      refine HR1.out.mono ?_
      rintro e w2 ⟨rfl, h2⟩
      have HE := Lib.hid (h1.trans h2)
      have HQ := Lib.hid (show (gv w a == gv w b) = decide (gv w a = gv w b) by rw [Bool.eq_iff_iff]; simp)
      clear h1 h2
      go_wp2
      go_ret
      exact ⟨by simp [← HQ.out], HE.out⟩
theorem con_nil (a b : Int) (W : World) :
    Calls Try.prog 17 #[.pointer none, .int .i64 a, .int .i64 b] W fun e w' => e = .returned (.bool false) ∧ W = w' := by
  go_enter Try.func17, Try.ntmps17
  go_wp2_with (go_at_call 40; refine (has_nil a W).mono ?_; rintro e w1 ⟨rfl, rfl⟩)
  go_ret
  exact ⟨rfl, rfl⟩
end Go.Proofs.Ytjlpjdpaingnkaa.pt
