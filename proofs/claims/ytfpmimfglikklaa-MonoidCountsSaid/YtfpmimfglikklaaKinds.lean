/-
  The table 'kinds' of package monoid: what its call returns, and its rows.
-/
import Derived.Test.YtfpmimfglikklaaProg
import Derived.Test.YtfpmimfglikklaaBase
set_option linter.unusedSimpArgs false
set_option linter.unusedVariables false
namespace Go.Proofs.Ytfpmimfglikklaa.mono
open Go.RowKit Go.Own
set_option maxHeartbeats 400000
def kAll : Array Value := #[.string ⟨#[97, 108, 108]⟩, .func (.func 38) #[] #[], .func (.func 35) #[] #[], .int .i64 1, .func (.func 36) #[] #[], .func (.func 40) #[] #[], .func (.func 36) #[] #[], .func (.func 41) #[] #[], .func (.func 39) #[] #[]]
def kAny : Array Value := #[.string ⟨#[115, 111, 109, 101]⟩, .func (.func 38) #[] #[], .func (.func 35) #[] #[], .int .i64 0, .func (.func 36) #[] #[], .func (.func 42) #[] #[], .func (.func 36) #[] #[], .func (.func 39) #[] #[], .func (.func 43) #[] #[]]
def kExactly : Array Value := #[.string ⟨#[106, 117, 115, 116]⟩, .func (.func 44) #[] #[], .func (.func 45) #[] #[], .int .i64 0, .func (.func 36) #[] #[], .func (.func 46) #[] #[], .func (.func 37) #[] #[], .func (.func 47) #[] #[], .func (.func 39) #[] #[]]
def kModulo : Array Value := #[.string ⟨#[114, 101, 115, 116]⟩, .func (.func 48) #[] #[], .func (.func 49) #[] #[], .int .i64 0, .func (.func 50) #[] #[], .func (.func 51) #[] #[], .func (.func 37) #[] #[], .func (.func 39) #[] #[], .func (.func 52) #[] #[]]
def kAllCells : Array Value := kAll ++ kAny ++ kExactly ++ kModulo

theorem kinds_calls (w : World) :
    Calls Try.prog 33 #[] w fun e w' => e = .returned (.agg kAllCells) ∧ ∃ x, w' = beyond w x := by
  go_enter Try.func33, Try.ntmps33
  go_wp2_with (refine wpList_store_block rfl 59 (.tmp 0) (.tmp 25) rfl w.heap.size kAllCells 59 _ rfl rfl (blockOf_alloc_at _ _ _ rfl) (by kernel_rfl) (by kernel_rfl) (by kernel_rfl) ?_)
  simp only [go_sem]
  refine bodyPost_ret (v := .agg kAllCells) ?_ rfl ⟨rfl, beyond_of ((Below.refl _ _).alloc (Nat.le_refl _) _)⟩
  refine results_block rfl _ _ w.heap.size 59 kAllCells _ rfl (blockOf_alloc_at _ _ _ rfl) Try.underlying59 rfl (by kernel_rfl)

theorem row_kAll (w : World) : (Instr.index 59 (.agg kAllCells) (.int .i64 0)).run Try.prog w = .ok (.agg kAll) w := by kernel_rfl
theorem row_kAny (w : World) : (Instr.index 59 (.agg kAllCells) (.int .i64 1)).run Try.prog w = .ok (.agg kAny) w := by kernel_rfl
theorem row_kExactly (w : World) : (Instr.index 59 (.agg kAllCells) (.int .i64 2)).run Try.prog w = .ok (.agg kExactly) w := by kernel_rfl
theorem row_kModulo (w : World) : (Instr.index 59 (.agg kAllCells) (.int .i64 3)).run Try.prog w = .ok (.agg kModulo) w := by kernel_rfl
theorem valid_kAll (w : World) : (Instr.field 50 (.agg kAll) 1).run Try.prog w = .ok (.func (.func 38) #[] #[]) w := by kernel_rfl
theorem valid_kAny (w : World) : (Instr.field 50 (.agg kAny) 1).run Try.prog w = .ok (.func (.func 38) #[] #[]) w := by kernel_rfl
theorem valid_kExactly (w : World) : (Instr.field 50 (.agg kExactly) 1).run Try.prog w = .ok (.func (.func 44) #[] #[]) w := by kernel_rfl
theorem valid_kModulo (w : World) : (Instr.field 50 (.agg kModulo) 1).run Try.prog w = .ok (.func (.func 48) #[] #[]) w := by kernel_rfl
end Go.Proofs.Ytfpmimfglikklaa.mono
