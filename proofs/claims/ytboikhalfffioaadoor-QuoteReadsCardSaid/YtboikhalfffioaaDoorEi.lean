/-
  errors.Is where the error is nil or the one that is asked for; quote.Unshow.
-/
import Derived.Test.YtboikhalfffioaaDoorRd
import Derived.LaidEql
import Derived.Stop.Asserts
import Derived.RowKitTokens
namespace Go.Proofs.YtboikhalfffioaaDoor
open Go.RowKit Go.Extern.Stop Go.Stop Go.Extern

theorem eiType (v : Value) (w : World) : (Extern.ReflectliteType.typeOf #[.iface 172 v]).run Tryd.prog w = .ok (.iface 145 (.agg #[.pointer (some ⟨6, 172, none⟩)])) w := by kernel_rfl
theorem eiMeth (w : World) : (Go.method 306 145 (.agg #[.pointer (some ⟨6, 172, none⟩)]) "Comparable").run Tryd.prog w = .ok (105, .agg #[.pointer (some ⟨6, 172, none⟩)]) w := by kernel_rfl
theorem eiComp (w : World) : (callFunc 105 #[.agg #[.pointer (some ⟨6, 172, none⟩)]]).run Tryd.prog w = .ok (.value (.bool true)) w := by kernel_rfl
theorem eiIs : (Tryd.prog.info? 172).map (·.comparable) = some true := by kernel_rfl
theorem eiSize : (Tryd.prog.info? 195).map (·.size) = some 1 := by kernel_rfl

set_option maxRecDepth 1000000 in
theorem is_same (w : World) (b : Addr) : Calls Tryd.prog 57 #[.iface 172 (.pointer (some b)), .iface 172 (.pointer (some b)), .bool true] w fun e w' => e = .returned (.bool true) ∧ w' = w := by
  obtain ⟨i, hi, hcmp⟩ := Option.map_eq_some_iff.1 eiIs
  obtain ⟨j, hj, hjs⟩ := Option.map_eq_some_iff.1 eiSize
  have heq := run_eql_iface_ptr_same (P := Tryd.prog) w b Tryd.underlying64 Tryd.underlying172 hi hcmp hj
  go_enter Tryd.func57, Tryd.ntmps57
  go_wp2
  go_loopw [0] (fun E' wl => wl = w ∧ E' = .iface 172 (.pointer (some b))) (fun _ _ => 0)
  case atStart => exact ⟨rfl, rfl⟩
  case round =>
    obtain ⟨rfl, rfl⟩ := hrel
    go_wp2
    go_ret
    exact ⟨rfl, rfl⟩
set_option maxRecDepth 1000000 in
theorem errorsIs_same (w : World) (b : Addr) : Calls Tryd.prog 25 #[.iface 172 (.pointer (some b)), .iface 172 (.pointer (some b))] w fun e w' => e = .returned (.bool true) ∧ w' = w := by
  go_enter Tryd.func25, Tryd.ntmps25
  go_wp2_with fail
  rw [run_callFunc_extern Tryd.func56 (by kernel_rfl) (by kernel_rfl) (by kernel_rfl) (e := Extern.ReflectliteType.typeOf) (by kernel_rfl), eiType]
  simp only [Result.andThen]
  rw [Oper.upon_value]
  go_wp2_with fail
  rw [eiMeth]
  simp only [Result.andThen]
  rw [eiComp]
  rw [Oper.upon_value]
  go_wp2_with (go_at_call 57; refine (is_same w b).mono ?_)
  rintro e w1 ⟨rfl, rfl⟩
  go_wp2
  go_ret
  exact ⟨rfl, rfl⟩
set_option maxRecDepth 1000000 in
theorem errorsIs_nil (w : World) (b : Addr) : Calls Tryd.prog 25 #[.nilIface, .iface 172 (.pointer (some b))] w fun e w' => e = .returned (.bool false) ∧ w' = w := by
  go_enter Tryd.func25, Tryd.ntmps25
  have hq := run_eql_iface_nil_left (P := Tryd.prog) w (ti := 64) 172 (.pointer (some b)) Tryd.underlying64
  go_wp2
  go_ret
  exact ⟨rfl, rfl⟩
end Go.Proofs.YtboikhalfffioaaDoor
