/-
  One number into, and out of, a row of words: the program's own With and Without.
-/
import Derived.Test.YtjneboajbmabbaaDoorToW
set_option linter.unusedSimpArgs false
set_option linter.unusedVariables false
namespace Go.Proofs.YtjneboajbmabbaaDoor.ref1
open Go.RowKit Go.Own Go.Rw Go.SetL Go.Bits
set_option maxHeartbeats 1000000
set_option maxRecDepth 100000

theorem inRange_calls (n : Int) (w : World) : Calls Tryd.prog 53 #[.int .i64 n] w fun e w' => e = .returned (.bool (decide (0 ≤ n) && decide (n < 1024))) ∧ w = w' := by
  go_enter Tryd.func53, Tryd.ntmps53
  by_cases h0 : 0 ≤ n
  · by_cases h1 : n < 1024
    · go_wp2
      go_ret
      exact ⟨ret_bool (by simp [h0, h1]), rfl⟩
    · go_wp2
      go_ret
      exact ⟨ret_bool (by simp; omega), rfl⟩
  · go_wp2
    go_ret
    exact ⟨ret_bool (by simp; omega), rfl⟩
theorem sInfo : (Tryd.prog.info? 25).map (·.size) = some 16 := by kernel_rfl
theorem rowW_one (xs : List W) : (rowW xs).all (·.oneCell') = true := by unfold rowW; simp [Value.oneCell']
theorem set_one {cs : Array Value} (h : cs.all (·.oneCell') = true) (i : Nat) (v : Int) : (cs.setIfInBounds i (.int .u64 v)).all (·.oneCell') = true := by
  rw [Array.all_eq_true_iff_forall_mem] at h ⊢
  intro x hx
  rcases Array.mem_or_eq_of_mem_setIfInBounds hx with h1 | rfl
  · exact h x h1
  · rfl
theorem with_in (xs : List W) (hx : xs.length = 16) (k : Nat) (hk : k < 1024) (w : World) :
    Calls Tryd.prog 25 #[.agg (rowW xs), .int .i64 k] w fun e w' => e = .returned (.agg ((rowW xs).setIfInBounds (k / 64) (.int .u64 (bits BinOp.or IntKind.u64 (toI (xs.getD (k / 64) 0)) (IntKind.u64.wrap (2 ^ (k % 64))))))) ∧ ∃ y, w' = beyond w y := by
  have HX := Lib.hid hx; clear hx
  have hz : (rowW xs).size = 16 := by rw [rowW_size, HX.out]
  have ha := rowW_at (xs := xs) (k := k / 64) (by rw [HX.out]; omega)
  have h1 := rowW_one xs
  have hu0 := toI_nonneg (xs.getD (k / 64) 0)
  have hu1 := toI_lt (xs.getD (k / 64) 0)
  generalize toI (xs.getD (k / 64) 0) = u at ha hu0 hu1 ⊢
  generalize rowW xs = cs at hz ha h1 ⊢
  generalize hv : bits BinOp.or IntKind.u64 u (IntKind.u64.wrap (2 ^ (k % 64))) = v
  have HZ := Lib.hid (show (cs.setIfInBounds (k / 64) (.int .u64 v)).size = 16 by simpa using hz); clear hz
  have H1 := Lib.hid (set_one h1 (k / 64) v); clear h1
  have hd : (decide ((0:Int) ≤ k) && decide ((k:Int) < 1024)) = true := by simp; omega
  have HD := Lib.hid hd; clear hd
  go_enter Tryd.func25, Tryd.ntmps25
  go_wp2_with (go_at_call 53; refine (inRange_calls _ _).mono ?_; rw [HD.out]; rintro e w1 ⟨rfl, rfl⟩)
  go_region
  all_goals
    go_wp2_with (first
      | (refine wpList_load_block rfl 25 (.tmp 2) rfl w.heap.size (cs.setIfInBounds (k / 64) (.int .u64 v)) 25 _ rfl (by simp [go_sem]) Tryd.underlying25 rfl (by rw [HZ.out]; exact sInfo) ?_)
      | (refine wpList_store_block rfl 25 (.tmp 4) (.tmp 16) rfl (w.heap.size + 1) (cs.setIfInBounds (k / 64) (.int .u64 v)) 25 _ rfl rfl (by simp [go_sem]; rfl) (by rw [HZ.out]; exact sInfo) (by rw [HZ.out]; rfl) H1.out ?_))
    refine bodyPost_ret (results_block rfl _ _ (w.heap.size + 1) 25 (cs.setIfInBounds (k / 64) (.int .u64 v)) _ rfl (by simp [go_sem]) Tryd.underlying25 rfl (by rw [HZ.out]; exact sInfo)) rfl ?_
    exact ⟨rfl, beyond_of (by repeat (first | assumption | exact Below.refl _ _ | exact below_beyond _ _ | refine Below.beyond ?_ (by (try simp [size_beyond]) <;> omega) _ | refine Below.drew ?_ | refine Go.Rw.below_drewN ?_ _ | refine Go.Rw.below_setRow ?_ (by (try simp [size_beyond]) <;> omega) _ | refine Below.alloc ?_ (by (try simp [size_beyond]) <;> omega) _ | refine Below.setCell ?_ (by (try simp [size_beyond]) <;> omega) _))⟩
theorem without_in (xs : List W) (hx : xs.length = 16) (k : Nat) (hk : k < 1024) (w : World) :
    Calls Tryd.prog 27 #[.agg (rowW xs), .int .i64 k] w fun e w' => e = .returned (.agg ((rowW xs).setIfInBounds (k / 64) (.int .u64 (bits BinOp.andNot IntKind.u64 (toI (xs.getD (k / 64) 0)) (IntKind.u64.wrap (2 ^ (k % 64))))))) ∧ ∃ y, w' = beyond w y := by
  have HX := Lib.hid hx; clear hx
  have hz : (rowW xs).size = 16 := by rw [rowW_size, HX.out]
  have ha := rowW_at (xs := xs) (k := k / 64) (by rw [HX.out]; omega)
  have h1 := rowW_one xs
  have hu0 := toI_nonneg (xs.getD (k / 64) 0)
  have hu1 := toI_lt (xs.getD (k / 64) 0)
  generalize toI (xs.getD (k / 64) 0) = u at ha hu0 hu1 ⊢
  generalize rowW xs = cs at hz ha h1 ⊢
  generalize hv : bits BinOp.andNot IntKind.u64 u (IntKind.u64.wrap (2 ^ (k % 64))) = v
  have HZ := Lib.hid (show (cs.setIfInBounds (k / 64) (.int .u64 v)).size = 16 by simpa using hz); clear hz
  have H1 := Lib.hid (set_one h1 (k / 64) v); clear h1
  have hd : (decide ((0:Int) ≤ k) && decide ((k:Int) < 1024)) = true := by simp; omega
  have HD := Lib.hid hd; clear hd
  go_enter Tryd.func27, Tryd.ntmps27
  go_wp2_with (go_at_call 53; refine (inRange_calls _ _).mono ?_; rw [HD.out]; rintro e w1 ⟨rfl, rfl⟩)
  go_region
  all_goals
    go_wp2_with (first
      | (refine wpList_load_block rfl 25 (.tmp 2) rfl w.heap.size (cs.setIfInBounds (k / 64) (.int .u64 v)) 25 _ rfl (by simp [go_sem]) Tryd.underlying25 rfl (by rw [HZ.out]; exact sInfo) ?_)
      | (refine wpList_store_block rfl 25 (.tmp 4) (.tmp 16) rfl (w.heap.size + 1) (cs.setIfInBounds (k / 64) (.int .u64 v)) 25 _ rfl rfl (by simp [go_sem]; rfl) (by rw [HZ.out]; exact sInfo) (by rw [HZ.out]; rfl) H1.out ?_))
    refine bodyPost_ret (results_block rfl _ _ (w.heap.size + 1) 25 (cs.setIfInBounds (k / 64) (.int .u64 v)) _ rfl (by simp [go_sem]) Tryd.underlying25 rfl (by rw [HZ.out]; exact sInfo)) rfl ?_
    exact ⟨rfl, beyond_of (by repeat (first | assumption | exact Below.refl _ _ | exact below_beyond _ _ | refine Below.beyond ?_ (by (try simp [size_beyond]) <;> omega) _ | refine Below.drew ?_ | refine Go.Rw.below_drewN ?_ _ | refine Go.Rw.below_setRow ?_ (by (try simp [size_beyond]) <;> omega) _ | refine Below.alloc ?_ (by (try simp [size_beyond]) <;> omega) _ | refine Below.setCell ?_ (by (try simp [size_beyond]) <;> omega) _))⟩
theorem with_out (xs : List W) (hx : xs.length = 16) (n : Int) (hn : n < 0 ∨ 1024 ≤ n) (w : World) :
    Calls Tryd.prog 25 #[.agg (rowW xs), .int .i64 n] w fun e w' => e = .returned (.agg (rowW xs)) ∧ ∃ y, w' = beyond w y := by
  have HZ := Lib.hid (show (rowW xs).size = 16 by rw [rowW_size, hx]); clear hx
  have H1 := Lib.hid (rowW_one xs)
  generalize rowW xs = cs at HZ H1 ⊢
  have HD := Lib.hid (show (decide ((0:Int) ≤ n) && decide (n < 1024)) = false by rcases hn with h | h <;> simp <;> omega)
  clear hn
  go_enter Tryd.func25, Tryd.ntmps25
  go_wp2_with (first
    | (go_at_call 53; refine (inRange_calls _ _).mono ?_; rw [HD.out]; rintro e w1 ⟨rfl, rfl⟩)
    | (refine wpList_load_block rfl 25 (.tmp 2) rfl w.heap.size cs 25 _ rfl (by simp [go_sem]) Tryd.underlying25 rfl (by rw [HZ.out]; exact sInfo) ?_)
    | (refine wpList_store_block rfl 25 (.tmp 4) (.tmp 16) rfl (w.heap.size + 1) cs 25 _ rfl rfl (by simp [go_sem]; rfl) (by rw [HZ.out]; exact sInfo) (by rw [HZ.out]; rfl) H1.out ?_))
  refine bodyPost_ret (results_block rfl _ _ (w.heap.size + 1) 25 cs _ rfl (by simp [go_sem]) Tryd.underlying25 rfl (by rw [HZ.out]; exact sInfo)) rfl ?_
  exact ⟨rfl, beyond_of (by repeat (first | assumption | exact Below.refl _ _ | exact below_beyond _ _ | refine Below.beyond ?_ (by (try simp [size_beyond]) <;> omega) _ | refine Below.drew ?_ | refine Go.Rw.below_drewN ?_ _ | refine Go.Rw.below_setRow ?_ (by (try simp [size_beyond]) <;> omega) _ | refine Below.alloc ?_ (by (try simp [size_beyond]) <;> omega) _ | refine Below.setCell ?_ (by (try simp [size_beyond]) <;> omega) _))⟩
theorem without_out (xs : List W) (hx : xs.length = 16) (n : Int) (hn : n < 0 ∨ 1024 ≤ n) (w : World) :
    Calls Tryd.prog 27 #[.agg (rowW xs), .int .i64 n] w fun e w' => e = .returned (.agg (rowW xs)) ∧ ∃ y, w' = beyond w y := by
  have HZ := Lib.hid (show (rowW xs).size = 16 by rw [rowW_size, hx]); clear hx
  have H1 := Lib.hid (rowW_one xs)
  generalize rowW xs = cs at HZ H1 ⊢
  have HD := Lib.hid (show (decide ((0:Int) ≤ n) && decide (n < 1024)) = false by rcases hn with h | h <;> simp <;> omega)
  clear hn
  go_enter Tryd.func27, Tryd.ntmps27
  go_wp2_with (first
    | (go_at_call 53; refine (inRange_calls _ _).mono ?_; rw [HD.out]; rintro e w1 ⟨rfl, rfl⟩)
    | (refine wpList_load_block rfl 25 (.tmp 2) rfl w.heap.size cs 25 _ rfl (by simp [go_sem]) Tryd.underlying25 rfl (by rw [HZ.out]; exact sInfo) ?_)
    | (refine wpList_store_block rfl 25 (.tmp 4) (.tmp 16) rfl (w.heap.size + 1) cs 25 _ rfl rfl (by simp [go_sem]; rfl) (by rw [HZ.out]; exact sInfo) (by rw [HZ.out]; rfl) H1.out ?_))
  refine bodyPost_ret (results_block rfl _ _ (w.heap.size + 1) 25 cs _ rfl (by simp [go_sem]) Tryd.underlying25 rfl (by rw [HZ.out]; exact sInfo)) rfl ?_
  exact ⟨rfl, beyond_of (by repeat (first | assumption | exact Below.refl _ _ | exact below_beyond _ _ | refine Below.beyond ?_ (by (try simp [size_beyond]) <;> omega) _ | refine Below.drew ?_ | refine Go.Rw.below_drewN ?_ _ | refine Go.Rw.below_setRow ?_ (by (try simp [size_beyond]) <;> omega) _ | refine Below.alloc ?_ (by (try simp [size_beyond]) <;> omega) _ | refine Below.setCell ?_ (by (try simp [size_beyond]) <;> omega) _))⟩
end Go.Proofs.YtjneboajbmabbaaDoor.ref1
