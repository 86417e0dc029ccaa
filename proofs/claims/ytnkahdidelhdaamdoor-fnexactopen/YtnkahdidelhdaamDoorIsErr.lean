/-
  errors.Is of a seal's fault, and of no fault.
-/
import Derived.Test.YtnkahdidelhdaamDoorConv
import Derived.WalkKit
import Derived.LaidEql
import Derived.Stop.Asserts
import Derived.RowKitTokens
namespace Go.Proofs.YtnkahdidelhdaamDoor
open Go.RowKit Go.Extern.Stop Go.Stop Go.Extern

theorem isTypeOf (v : Value) (w : World) : (Extern.ReflectliteType.typeOf #[.iface 120 v]).run Tryd.prog w = .ok (.iface 63 (.agg #[.pointer (some ⟨3, 120, none⟩)])) w := by kernel_rfl
theorem isComparable (w : World) : ((Extern.ReflectliteType.method fun t => do Extern.Rtype.noPackHeld "Comparable" t; (fun a => Value.bool a.comparable) <$> typeInfo t) #[.agg #[.pointer (some ⟨3, 120, none⟩)]]).run Tryd.prog w = .ok (.bool true) w := by kernel_rfl
theorem isMethodComparable (v : Value) (w : World) : (Go.method 252 63 v "Comparable").run Tryd.prog w = .ok (91, v) w := by kernel_rfl
theorem isComp : (Tryd.prog.info? 120).map (·.comparable) = some true := by kernel_rfl
theorem isSize : (Tryd.prog.info? 142).map (·.size) = some 1 := by kernel_rfl
theorem noIsF (v : Value) (xT : TypeId) (w : World) : (Instr.typeAssert (.iface 61 v) xT 65 true).run Tryd.prog w = .ok (.tuple #[.nilIface, .bool false]) w := run_typeAssert_lacksB Tryd.underlying65 (by kernel_rfl) (by kernel_rfl) v xT w
theorem hasUnwrapF (v : Value) (xT : TypeId) (w : World) : (Instr.typeAssert (.iface 61 v) xT 68 true).run Tryd.prog w = .ok (.tuple #[.iface 61 v, .bool true]) w := run_typeAssert_hasB Tryd.underlying68 (by kernel_rfl) v xT w
theorem methodUnwrap (v : Value) (w : World) : (Go.method 252 61 v "Unwrap").run Tryd.prog w = .ok (87, v) w := by kernel_rfl

/-- a fault -/
def fltV (s : ByteArray) (a : Addr) : Value := .iface 61 (.agg #[.string s, .iface 120 (.pointer (some a))])
def refV (a : Addr) : Value := .iface 120 (.pointer (some a))
set_option maxRecDepth 100000 in
theorem is_nil (a : Addr) (w : World) :
    Calls Tryd.prog 12 #[.nilIface, refV a] w fun e w' => e = .returned (.bool false) ∧ w' = w := by
  unfold refV
  have hn := run_eql_iface_nil_left (P := Tryd.prog) w 120 (.pointer (some a)) Tryd.underlying33
  go_enter Tryd.func12, Tryd.ntmps12
  go_wp2
  go_ret
  exact ⟨rfl, rfl⟩
set_option maxRecDepth 100000 in
theorem unwrap_any (s : ByteArray) (a : Addr) (w : World) :
    Calls Tryd.prog 87 #[.agg #[.string s, .iface 120 (.pointer (some a))]] w fun e w' => e = .returned (refV a) ∧ Below w.heap.size w w' := by
  unfold refV
  go_enter Tryd.func87, Tryd.ntmps87
  go_wp2_with fail
  go_ret
  exact ⟨rfl, (Below.refl _ _).alloc (Nat.le_refl _) _⟩
set_option maxRecDepth 100000 in
set_option maxHeartbeats 1000000 in
theorem iss_fault (s : ByteArray) (a : Addr) (w : World) :
    Calls Tryd.prog 23 #[fltV s a, refV a, .bool true] w fun e w' => e = .returned (.bool true) ∧ Below w.heap.size w w' := by
  unfold fltV
  have HU : Hid (∀ w, Calls Tryd.prog 87 #[.agg #[.string s, .iface 120 (.pointer (some a))]] w fun e w' => e = .returned (refV a) ∧ Below w.heap.size w w') := fun w => unwrap_any s a w
  obtain ⟨i, hi, hcmp⟩ := Option.map_eq_some_iff.1 isComp
  obtain ⟨j, hj, hjs⟩ := Option.map_eq_some_iff.1 isSize
  have nF := noIsF
  have uF := hasUnwrapF
  have mU := methodUnwrap
  unfold refV at HU ⊢
  have heq := fun w => run_eql_iface_ptr_same (P := Tryd.prog) w a Tryd.underlying33 Tryd.underlying120 hi hcmp hj
  have hty := run_eql_iface_types (P := Tryd.prog) 61 120 (.agg #[.string s, .iface 120 (.pointer (some a))]) (.pointer (some a)) Tryd.underlying33 (by decide)
  go_enter Tryd.func23, Tryd.ntmps23
  go_wp2_with fail
  refine wp_loop_rounds 2 ?_
  rw [rounds_succ]
  go_wp2_with fail
  refine (HU.out _).mono ?_
  rintro e w1 ⟨rfl, hb1⟩
  go_wp2_with fail
  rw [rounds_succ]
  go_wp2_with fail
  go_ret
  exact ⟨rfl, hb1⟩
set_option maxRecDepth 100000 in
set_option maxHeartbeats 1000000 in
theorem is_fault (s : ByteArray) (a : Addr) (w : World) :
    Calls Tryd.prog 12 #[fltV s a, refV a] w fun e w' => e = .returned (.bool true) ∧ Below w.heap.size w w' := by
  have HI : Hid (∀ w, Calls Tryd.prog 23 #[fltV s a, refV a, .bool true] w fun e w' => e = .returned (.bool true) ∧ Below w.heap.size w w') := fun w => iss_fault s a w
  unfold fltV refV at HI ⊢
  have h8 := @run_callFunc_extern Tryd.prog 22 _ Extern.ReflectliteType.typeOf Tryd.func22 (by kernel_rfl) (by kernel_rfl) (by kernel_rfl) (by kernel_rfl)
  have h32 := @run_callFunc_extern Tryd.prog 91 _ (Extern.ReflectliteType.method fun t => do Extern.Rtype.noPackHeld "Comparable" t; pure (.bool (← typeInfo t).comparable)) Tryd.func91 (by kernel_rfl) (by kernel_rfl) (by kernel_rfl) (by kernel_rfl)
  have tT := isTypeOf
  have cT := isComparable
  have mR := isMethodComparable
  go_enter Tryd.func12, Tryd.ntmps12
  go_wp2_with fail
  refine (HI.out _).mono ?_
  rintro e w1 ⟨rfl, hb1⟩
  go_wp2_with fail
  go_ret
  exact ⟨rfl, hb1⟩
end Go.Proofs.YtnkahdidelhdaamDoor
