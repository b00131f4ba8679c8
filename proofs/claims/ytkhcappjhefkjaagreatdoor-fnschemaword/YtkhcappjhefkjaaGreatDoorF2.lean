/- The program's table of kinds: schemaKinds. (written by gen_f2.py) -/
import Derived.Test.YtkhcappjhefkjaaGreatDoorF1
import Derived.Deep.WholeRow
namespace Go.Proofs.YtkhcappjhefkjaaGreatDoor
open Go.RowKit
set_option linter.unusedVariables false

/-- The table: four functions a kind. -/
def kindC : Array Value := #[.nilFunc, .nilFunc, .nilFunc, .nilFunc, .func (.func 89) #[] #[], .func (.func 90) #[] #[], .func (.func 91) #[] #[], .func (.func 92) #[] #[], .func (.func 89) #[] #[], .func (.func 93) #[] #[], .func (.func 94) #[] #[], .func (.func 95) #[] #[], .func (.func 89) #[] #[], .func (.func 96) #[] #[], .func (.func 97) #[] #[], .func (.func 98) #[] #[], .func (.func 99) #[] #[], .func (.func 100) #[] #[], .func (.func 101) #[] #[], .func (.func 102) #[] #[], .func (.func 103) #[] #[], .func (.func 104) #[] #[], .func (.func 105) #[] #[], .func (.func 106) #[] #[], .func (.func 107) #[] #[], .func (.func 108) #[] #[], .func (.func 109) #[] #[], .func (.func 110) #[] #[], .func (.func 111) #[] #[], .func (.func 112) #[] #[], .func (.func 113) #[] #[], .func (.func 114) #[] #[], .func (.func 115) #[] #[], .func (.func 116) #[] #[], .func (.func 117) #[] #[], .func (.func 118) #[] #[]]
def kindZ : Array Value := #[.nilFunc, .nilFunc, .nilFunc, .nilFunc, .nilFunc, .nilFunc, .nilFunc, .nilFunc, .nilFunc, .nilFunc, .nilFunc, .nilFunc, .nilFunc, .nilFunc, .nilFunc, .nilFunc, .nilFunc, .nilFunc, .nilFunc, .nilFunc, .nilFunc, .nilFunc, .nilFunc, .nilFunc, .nilFunc, .nilFunc, .nilFunc, .nilFunc, .nilFunc, .nilFunc, .nilFunc, .nilFunc, .nilFunc, .nilFunc, .nilFunc, .nilFunc]

set_option maxRecDepth 100000 in
set_option maxHeartbeats 2000000 in
theorem kinds_any (w : World) : Calls Tryz.prog 73 #[] w (fun e w' => e = .returned (.agg kindC) ∧ Below w.heap.size w w') := by
  have HST : Hid (∀ w : World, (w.alloc (.cells kindZ 93)).setRow w.heap.size kindC = w.alloc (.cells kindC 93)) := fun w => World.setRow_alloc_new w kindZ kindC _
  go_enter Tryz.func73, Tryz.ntmps73
  go_wp2_with (refine wpList_store_row rfl _ _ _ rfl w.heap.size kindC rfl rfl 93 kindZ (heap_alloc_last w _) (by kernel_rfl) rfl (by kernel_rfl) ?_)
  rw [World.setRow_alloc_new]
  have hld := run_loadVar_new (P := Tryz.prog) w 93 kindC 9 92 Tryz.underlying93 (by kernel_rfl)
  refine bodyPost_ret (v := .agg kindC) ?_ rfl ⟨rfl, below_box _⟩
  simp [results, Tryz.results73, Act.put, asAddr, hld]
end Go.Proofs.YtkhcappjhefkjaaGreatDoor

