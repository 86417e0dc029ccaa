/-
  errors.Is of a seal's fault, and of no fault.
-/
import Derived.Test.YtnkahdidelhdaacGreatDoorConv
import Derived.WalkKit
import Derived.LaidEql
import Derived.Stop.Asserts
import Derived.RowKitTokens
namespace Go.Proofs.YtnkahdidelhdaacGreatDoor
open Go.RowKit Go.Extern.Stop Go.Stop Go.Extern

theorem isTypeOf (v : Value) (w : World) : (Extern.ReflectliteType.typeOf #[.iface 132 v]).run Tryz.prog w = .ok (.iface 81 (.agg #[.pointer (some ⟨3, 132, none⟩)])) w := by kernel_rfl
theorem isComparable (w : World) : ((Extern.ReflectliteType.method fun t => do Extern.Rtype.noPackHeld "Comparable" t; (fun a => Value.bool a.comparable) <$> typeInfo t) #[.agg #[.pointer (some ⟨3, 132, none⟩)]]).run Tryz.prog w = .ok (.bool true) w := by kernel_rfl
theorem isMethodComparable (v : Value) (w : World) : (Go.method 264 81 v "Comparable").run Tryz.prog w = .ok (107, v) w := by kernel_rfl
theorem isComp : (Tryz.prog.info? 132).map (·.comparable) = some true := by kernel_rfl
theorem isSize : (Tryz.prog.info? 154).map (·.size) = some 1 := by kernel_rfl
theorem noIsF (v : Value) (xT : TypeId) (w : World) : (Instr.typeAssert (.iface 96 v) xT 83 true).run Tryz.prog w = .ok (.tuple #[.nilIface, .bool false]) w := run_typeAssert_lacksB Tryz.underlying83 (by kernel_rfl) (by kernel_rfl) v xT w
theorem hasUnwrapF (v : Value) (xT : TypeId) (w : World) : (Instr.typeAssert (.iface 96 v) xT 86 true).run Tryz.prog w = .ok (.tuple #[.iface 96 v, .bool true]) w := run_typeAssert_hasB Tryz.underlying86 (by kernel_rfl) v xT w
theorem methodUnwrap (v : Value) (w : World) : (Go.method 264 96 v "Unwrap").run Tryz.prog w = .ok (117, v) w := by kernel_rfl

/-- a fault -/
def fltV (s : ByteArray) (a : Addr) : Value := .iface 96 (.agg #[.string s, .iface 132 (.pointer (some a))])
def refV (a : Addr) : Value := .iface 132 (.pointer (some a))
set_option maxRecDepth 100000 in
theorem is_nil (a : Addr) (w : World) :
    Calls Tryz.prog 17 #[.nilIface, refV a] w fun e w' => e = .returned (.bool false) ∧ w' = w := by
  unfold refV
  have hn := run_eql_iface_nil_left (P := Tryz.prog) w 132 (.pointer (some a)) Tryz.underlying38
  go_enter Tryz.func17, Tryz.ntmps17
  go_wp2
  go_ret
  exact ⟨rfl, rfl⟩
set_option maxRecDepth 100000 in
theorem unwrap_any (s : ByteArray) (a : Addr) (w : World) :
    Calls Tryz.prog 117 #[.agg #[.string s, .iface 132 (.pointer (some a))]] w fun e w' => e = .returned (refV a) ∧ Below w.heap.size w w' := by
  unfold refV
  go_enter Tryz.func117, Tryz.ntmps117
  go_wp2_with fail
  go_ret
  exact ⟨rfl, (Below.refl _ _).alloc (Nat.le_refl _) _⟩
set_option maxRecDepth 100000 in
set_option maxHeartbeats 1000000 in
theorem iss_fault (s : ByteArray) (a : Addr) (w : World) :
    Calls Tryz.prog 36 #[fltV s a, refV a, .bool true] w fun e w' => e = .returned (.bool true) ∧ Below w.heap.size w w' := by
  unfold fltV
  have HU : Hid (∀ w, Calls Tryz.prog 117 #[.agg #[.string s, .iface 132 (.pointer (some a))]] w fun e w' => e = .returned (refV a) ∧ Below w.heap.size w w') := fun w => unwrap_any s a w
  obtain ⟨i, hi, hcmp⟩ := Option.map_eq_some_iff.1 isComp
  obtain ⟨j, hj, hjs⟩ := Option.map_eq_some_iff.1 isSize
  have nF := noIsF
  have uF := hasUnwrapF
  have mU := methodUnwrap
  unfold refV at HU ⊢
  have heq := fun w => run_eql_iface_ptr_same (P := Tryz.prog) w a Tryz.underlying38 Tryz.underlying132 hi hcmp hj
  have hty := run_eql_iface_types (P := Tryz.prog) 96 132 (.agg #[.string s, .iface 132 (.pointer (some a))]) (.pointer (some a)) Tryz.underlying38 (by decide)
  go_enter Tryz.func36, Tryz.ntmps36
  go_wp2_with fail
  refine wp_loop_rounds 2 ?_
  rw [rounds_succ]
  go_wp2_with fail
  refine (HU.out _).mono ?_
  rintro e w1 ⟨rfl, hb1⟩
  go_wp2_with fail
  rw [rounds_succ]
  go_wp2_with fail
  go_ret
  exact ⟨rfl, hb1⟩
set_option maxRecDepth 100000 in
set_option maxHeartbeats 1000000 in
theorem is_fault (s : ByteArray) (a : Addr) (w : World) :
    Calls Tryz.prog 17 #[fltV s a, refV a] w fun e w' => e = .returned (.bool true) ∧ Below w.heap.size w w' := by
  have HI : Hid (∀ w, Calls Tryz.prog 36 #[fltV s a, refV a, .bool true] w fun e w' => e = .returned (.bool true) ∧ Below w.heap.size w w') := fun w => iss_fault s a w
  unfold fltV refV at HI ⊢
  have h8 := @run_callFunc_extern Tryz.prog 35 _ Extern.ReflectliteType.typeOf Tryz.func35 (by kernel_rfl) (by kernel_rfl) (by kernel_rfl) (by kernel_rfl)
  have h32 := @run_callFunc_extern Tryz.prog 107 _ (Extern.ReflectliteType.method fun t => do Extern.Rtype.noPackHeld "Comparable" t; pure (.bool (← typeInfo t).comparable)) Tryz.func107 (by kernel_rfl) (by kernel_rfl) (by kernel_rfl) (by kernel_rfl)
  have tT := isTypeOf
  have cT := isComparable
  have mR := isMethodComparable
  go_enter Tryz.func17, Tryz.ntmps17
  go_wp2_with fail
  refine (HI.out _).mono ?_
  rintro e w1 ⟨rfl, hb1⟩
  go_wp2_with fail
  go_ret
  exact ⟨rfl, hb1⟩
end Go.Proofs.YtnkahdidelhdaacGreatDoor
