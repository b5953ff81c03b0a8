/-
  The table 'kinds' of package monoid: what its call returns, and its rows.
-/
import Derived.Test.YtdljpdejgplhmaaDoorProg
import Derived.Test.YtdljpdejgplhmaaDoorBase
set_option linter.unusedSimpArgs false
set_option linter.unusedVariables false
namespace Go.Proofs.YtdljpdejgplhmaaDoor.mono
open Go.RowKit Go.Own
set_option maxHeartbeats 400000
def kAll : Array Value := #[.string ⟨#[97, 108, 108]⟩, .func (.func 30) #[] #[], .func (.func 27) #[] #[], .int .i64 1, .func (.func 28) #[] #[], .func (.func 32) #[] #[], .func (.func 28) #[] #[], .func (.func 33) #[] #[], .func (.func 31) #[] #[]]
def kAny : Array Value := #[.string ⟨#[115, 111, 109, 101]⟩, .func (.func 30) #[] #[], .func (.func 27) #[] #[], .int .i64 0, .func (.func 28) #[] #[], .func (.func 34) #[] #[], .func (.func 28) #[] #[], .func (.func 31) #[] #[], .func (.func 35) #[] #[]]
def kExactly : Array Value := #[.string ⟨#[106, 117, 115, 116]⟩, .func (.func 36) #[] #[], .func (.func 37) #[] #[], .int .i64 0, .func (.func 28) #[] #[], .func (.func 38) #[] #[], .func (.func 29) #[] #[], .func (.func 39) #[] #[], .func (.func 31) #[] #[]]
def kModulo : Array Value := #[.string ⟨#[114, 101, 115, 116]⟩, .func (.func 40) #[] #[], .func (.func 41) #[] #[], .int .i64 0, .func (.func 42) #[] #[], .func (.func 43) #[] #[], .func (.func 29) #[] #[], .func (.func 31) #[] #[], .func (.func 44) #[] #[]]
def kAllCells : Array Value := kAll ++ kAny ++ kExactly ++ kModulo

theorem kinds_calls (w : World) :
    Calls Tryd.prog 22 #[] w fun e w' => e = .returned (.agg kAllCells) ∧ ∃ x, w' = beyond w x := by
  go_enter Tryd.func22, Tryd.ntmps22
  go_wp2_with (refine wpList_store_block rfl 47 (.tmp 0) (.tmp 25) rfl w.heap.size kAllCells 47 _ rfl rfl (blockOf_alloc_at _ _ _ rfl) (by kernel_rfl) (by kernel_rfl) (by kernel_rfl) ?_)
  simp only [go_sem]
  refine bodyPost_ret (v := .agg kAllCells) ?_ rfl ⟨rfl, beyond_of ((Below.refl _ _).alloc (Nat.le_refl _) _)⟩
  refine results_block rfl _ _ w.heap.size 47 kAllCells _ rfl (blockOf_alloc_at _ _ _ rfl) Tryd.underlying47 rfl (by kernel_rfl)

theorem row_kAll (w : World) : (Instr.index 47 (.agg kAllCells) (.int .i64 0)).run Tryd.prog w = .ok (.agg kAll) w := by kernel_rfl
theorem row_kAny (w : World) : (Instr.index 47 (.agg kAllCells) (.int .i64 1)).run Tryd.prog w = .ok (.agg kAny) w := by kernel_rfl
theorem row_kExactly (w : World) : (Instr.index 47 (.agg kAllCells) (.int .i64 2)).run Tryd.prog w = .ok (.agg kExactly) w := by kernel_rfl
theorem row_kModulo (w : World) : (Instr.index 47 (.agg kAllCells) (.int .i64 3)).run Tryd.prog w = .ok (.agg kModulo) w := by kernel_rfl
theorem valid_kAll (w : World) : (Instr.field 46 (.agg kAll) 1).run Tryd.prog w = .ok (.func (.func 30) #[] #[]) w := by kernel_rfl
theorem valid_kAny (w : World) : (Instr.field 46 (.agg kAny) 1).run Tryd.prog w = .ok (.func (.func 30) #[] #[]) w := by kernel_rfl
theorem valid_kExactly (w : World) : (Instr.field 46 (.agg kExactly) 1).run Tryd.prog w = .ok (.func (.func 36) #[] #[]) w := by kernel_rfl
theorem valid_kModulo (w : World) : (Instr.field 46 (.agg kModulo) 1).run Tryd.prog w = .ok (.func (.func 40) #[] #[]) w := by kernel_rfl
end Go.Proofs.YtdljpdejgplhmaaDoor.mono
