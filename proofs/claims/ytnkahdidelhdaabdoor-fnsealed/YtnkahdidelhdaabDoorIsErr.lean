/-
  errors.Is of a seal's fault, and of no fault.
-/
import Derived.Test.YtnkahdidelhdaabDoorConv
import Derived.WalkKit
import Derived.LaidEql
import Derived.Stop.Asserts
import Derived.RowKitTokens
namespace Go.Proofs.YtnkahdidelhdaabDoor
open Go.RowKit Go.Extern.Stop Go.Stop Go.Extern

theorem isTypeOf (v : Value) (w : World) : (Extern.ReflectliteType.typeOf #[.iface 135 v]).run Tryd.prog w = .ok (.iface 88 (.agg #[.pointer (some ⟨3, 135, none⟩)])) w := by kernel_rfl
theorem isComparable (w : World) : ((Extern.ReflectliteType.method fun t => do Extern.Rtype.noPackHeld "Comparable" t; (fun a => Value.bool a.comparable) <$> typeInfo t) #[.agg #[.pointer (some ⟨3, 135, none⟩)]]).run Tryd.prog w = .ok (.bool true) w := by kernel_rfl
theorem isMethodComparable (v : Value) (w : World) : (Go.method 267 88 v "Comparable").run Tryd.prog w = .ok (109, v) w := by kernel_rfl
theorem isComp : (Tryd.prog.info? 135).map (·.comparable) = some true := by kernel_rfl
theorem isSize : (Tryd.prog.info? 157).map (·.size) = some 1 := by kernel_rfl
theorem noIsF (v : Value) (xT : TypeId) (w : World) : (Instr.typeAssert (.iface 103 v) xT 90 true).run Tryd.prog w = .ok (.tuple #[.nilIface, .bool false]) w := run_typeAssert_lacksB Tryd.underlying90 (by kernel_rfl) (by kernel_rfl) v xT w
theorem hasUnwrapF (v : Value) (xT : TypeId) (w : World) : (Instr.typeAssert (.iface 103 v) xT 93 true).run Tryd.prog w = .ok (.tuple #[.iface 103 v, .bool true]) w := run_typeAssert_hasB Tryd.underlying93 (by kernel_rfl) v xT w
theorem methodUnwrap (v : Value) (w : World) : (Go.method 267 103 v "Unwrap").run Tryd.prog w = .ok (119, v) w := by kernel_rfl

/-- a fault -/
def fltV (s : ByteArray) (a : Addr) : Value := .iface 103 (.agg #[.string s, .iface 135 (.pointer (some a))])
def refV (a : Addr) : Value := .iface 135 (.pointer (some a))
set_option maxRecDepth 100000 in
theorem is_nil (a : Addr) (w : World) :
    Calls Tryd.prog 24 #[.nilIface, refV a] w fun e w' => e = .returned (.bool false) ∧ w' = w := by
  unfold refV
  have hn := run_eql_iface_nil_left (P := Tryd.prog) w 135 (.pointer (some a)) Tryd.underlying41
  go_enter Tryd.func24, Tryd.ntmps24
  go_wp2
  go_ret
  exact ⟨rfl, rfl⟩
set_option maxRecDepth 100000 in
theorem unwrap_any (s : ByteArray) (a : Addr) (w : World) :
    Calls Tryd.prog 119 #[.agg #[.string s, .iface 135 (.pointer (some a))]] w fun e w' => e = .returned (refV a) ∧ Below w.heap.size w w' := by
  unfold refV
  go_enter Tryd.func119, Tryd.ntmps119
  go_wp2_with fail
  go_ret
  exact ⟨rfl, (Below.refl _ _).alloc (Nat.le_refl _) _⟩
set_option maxRecDepth 100000 in
set_option maxHeartbeats 1000000 in
theorem iss_fault (s : ByteArray) (a : Addr) (w : World) :
    Calls Tryd.prog 44 #[fltV s a, refV a, .bool true] w fun e w' => e = .returned (.bool true) ∧ Below w.heap.size w w' := by
  unfold fltV
  have HU : Hid (∀ w, Calls Tryd.prog 119 #[.agg #[.string s, .iface 135 (.pointer (some a))]] w fun e w' => e = .returned (refV a) ∧ Below w.heap.size w w') := fun w => unwrap_any s a w
  obtain ⟨i, hi, hcmp⟩ := Option.map_eq_some_iff.1 isComp
  obtain ⟨j, hj, hjs⟩ := Option.map_eq_some_iff.1 isSize
  have nF := noIsF
  have uF := hasUnwrapF
  have mU := methodUnwrap
  unfold refV at HU ⊢
  have heq := fun w => run_eql_iface_ptr_same (P := Tryd.prog) w a Tryd.underlying41 Tryd.underlying135 hi hcmp hj
  have hty := run_eql_iface_types (P := Tryd.prog) 103 135 (.agg #[.string s, .iface 135 (.pointer (some a))]) (.pointer (some a)) Tryd.underlying41 (by decide)
  go_enter Tryd.func44, Tryd.ntmps44
  go_wp2_with fail
  refine wp_loop_rounds 2 ?_
  rw [rounds_succ]
  go_wp2_with fail
  refine (HU.out _).mono ?_
  rintro e w1 ⟨rfl, hb1⟩
  go_wp2_with fail
  rw [rounds_succ]
  go_wp2_with fail
  go_ret
  exact ⟨rfl, hb1⟩
set_option maxRecDepth 100000 in
set_option maxHeartbeats 1000000 in
theorem is_fault (s : ByteArray) (a : Addr) (w : World) :
    Calls Tryd.prog 24 #[fltV s a, refV a] w fun e w' => e = .returned (.bool true) ∧ Below w.heap.size w w' := by
  have HI : Hid (∀ w, Calls Tryd.prog 44 #[fltV s a, refV a, .bool true] w fun e w' => e = .returned (.bool true) ∧ Below w.heap.size w w') := fun w => iss_fault s a w
  unfold fltV refV at HI ⊢
  have h8 := @run_callFunc_extern Tryd.prog 43 _ Extern.ReflectliteType.typeOf Tryd.func43 (by kernel_rfl) (by kernel_rfl) (by kernel_rfl) (by kernel_rfl)
  have h32 := @run_callFunc_extern Tryd.prog 109 _ (Extern.ReflectliteType.method fun t => do Extern.Rtype.noPackHeld "Comparable" t; pure (.bool (← typeInfo t).comparable)) Tryd.func109 (by kernel_rfl) (by kernel_rfl) (by kernel_rfl) (by kernel_rfl)
  have tT := isTypeOf
  have cT := isComparable
  have mR := isMethodComparable
  go_enter Tryd.func24, Tryd.ntmps24
  go_wp2_with fail
  refine (HI.out _).mono ?_
  rintro e w1 ⟨rfl, hb1⟩
  go_wp2_with fail
  go_ret
  exact ⟨rfl, hb1⟩
end Go.Proofs.YtnkahdidelhdaabDoor
