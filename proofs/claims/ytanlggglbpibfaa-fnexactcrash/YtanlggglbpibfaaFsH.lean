/-
  What an op is: the deed of one of its form.
-/
import Derived.Test.YtanlggglbpibfaaFsG
namespace Go.Proofs.Ytanlggglbpibfaa
open Go.RowKit
set_option linter.unusedVariables false
set_option linter.unusedSimpArgs false
def dV (o : DqI) : Value := if o.m = 1 then apV o.a o.d else if o.m = 2 then rnV o.a o.p else rmV o.a
def DeAns (o : DqI) (e : Ending) : Prop := (opP o ∧ e = .returned (.tuple #[dV o, .bool true])) ∨ (¬ opP o ∧ ∃ x, e = .returned (.tuple #[x, .bool false]))
theorem dV1 (a p d : ByteArray) : dV ⟨1, a, p, d⟩ = apV a d := rfl
theorem dV2 (a p d : ByteArray) : dV ⟨2, a, p, d⟩ = rnV a p := rfl
theorem dV3 (a p d : ByteArray) : dV ⟨3, a, p, d⟩ = rmV a := rfl
set_option maxRecDepth 100000 in
set_option maxHeartbeats 2500000 in
theorem deed_any (m : Int) (a p d : ByteArray) (w : World) :
    Calls Try.prog 48 #[dqV m a p d] w fun e w' => DeAns ⟨m, a, p, d⟩ e ∧ Below w.heap.size w w' := by
  have HNM : Hid (∀ (s : ByteArray) (w : World), Calls Try.prog 83 #[.string s] w fun e w' => e = .returned (.bool (decide (nmOk s))) ∧ w' = w) := name15_any
  have HB : Hid (Below w.heap.size w (w.alloc (.cells #[.int .i64 m, .string a, .string p, .string d] 36))) := (Below.refl _ _).alloc (Nat.le_refl _) _
  unfold dqV
  by_cases h2 : nmOk a
  rotate_left
  · have hA : DeAns ⟨m, a, p, d⟩ (.returned (.tuple #[.nilIface, .bool false])) := Or.inr ⟨fun k => h2 k.2.1, _, rfl⟩
    have HA := hidF hA
    have HNA : Hid (∀ w, Calls Try.prog 83 #[.string a] w fun e w' => e = .returned (.bool false) ∧ w' = w) := fun w => by have := HNM.out a w; rwa [decide_eq_false h2] at this
    clear h2 hA
    go_enter Try.func48, Try.ntmps48
    go_wp2_with fail
    refine (HNA.out _).mono ?_
    rintro e w1 ⟨rfl, hw⟩
    subst w1
    go_wp2_with fail
    go_ret2
    exact ⟨HA.out, HB.out⟩
  have HNA : Hid (∀ w, Calls Try.prog 83 #[.string a] w fun e w' => e = .returned (.bool true) ∧ w' = w) := fun w => by have := HNM.out a w; rwa [decide_eq_true h2] at this
  by_cases hm2 : m = 2
  · subst hm2
    by_cases hd : d = ⟨#[]⟩
    rotate_left
    · have HA : Hid (DeAns ⟨2, a, p, d⟩ (.returned (.tuple #[.nilIface, .bool false]))) := Or.inr ⟨fun k => hd (by have := k.2.2; rw [if_pos rfl] at this; exact this.2), _, rfl⟩
      have e1 := emF_no hd
      have e2 := emF_eq hd
      clear hd h2
      go_enter Try.func48, Try.ntmps48
      go_wp2_with fail
      refine (HNA.out _).mono ?_
      rintro e w1 ⟨rfl, hw⟩
      subst w1
      go_wp2_with fail
      go_ret2
      exact ⟨HA.out, HB.out⟩
    subst hd
    have HNP : Hid (∀ w, Calls Try.prog 83 #[.string p] w fun e w' => e = .returned (.bool (decide (nmOk p))) ∧ w' = w) := fun w => HNM.out p w
    have HA : Hid (DeAns ⟨2, a, p, ⟨#[]⟩⟩ (.returned (.tuple #[.iface 121 (.agg #[.string a, .string p]), .bool (decide (nmOk p))]))) := by
      by_cases hp : nmOk p
      · rw [decide_eq_true hp]
        exact Or.inl ⟨⟨⟨by show (1 : Int) ≤ 2; omega, by show (2 : Int) ≤ 3; omega⟩, h2, by rw [if_pos rfl]; exact ⟨hp, rfl⟩⟩, rfl⟩
      · rw [decide_eq_false hp]
        exact Or.inr ⟨fun k => hp (by have := k.2.2; rw [if_pos rfl] at this; exact this.1), _, rfl⟩
    generalize decide (nmOk p) = r at HNP HA
    clear h2
    go_enter Try.func48, Try.ntmps48
    go_wp2_with fail
    refine (HNA.out _).mono ?_
    rintro e w1 ⟨rfl, hw⟩
    subst w1
    go_wp2_with fail
    go_quiet ((go_at_call 83; exact Calls.quiet_of_same (HNP.out _)))
    rename Nat => nz
    have HBN : Hid (Below w.heap.size w ((w.alloc (.cells #[.int .i64 2, .string a, .string p, .string ⟨#[]⟩] 36)).drewN nz)) := blFl HB.out ⟨rfl, rfl, rfl, Nat.le_refl _, fun _ _ => rfl⟩ HB.out.size
    go_wp2_with fail
    go_ret2
    exact ⟨HA.out, HBN.out⟩
  have k2 : (m == 2) = false := beq_eq_false_iff_ne.2 hm2
  have k3 : (m != 2) = true := by rw [bne_iff_ne]; exact hm2
  by_cases hp : p = ⟨#[]⟩
  rotate_left
  · have HA : Hid (DeAns ⟨m, a, p, d⟩ (.returned (.tuple #[.nilIface, .bool false]))) := Or.inr ⟨fun k => hp (by have := k.2.2; rw [if_neg hm2] at this; exact this.1), _, rfl⟩
    have e1 := emF_no hp
    have e2 := emF_eq hp
    clear hp h2 hm2
    go_enter Try.func48, Try.ntmps48
    go_wp2_with fail
    refine (HNA.out _).mono ?_
    rintro e w1 ⟨rfl, hw⟩
    subst w1
    go_wp2_with fail
    go_ret2
    exact ⟨HA.out, HB.out⟩
  subst hp
  by_cases hm1 : m = 1
  · subst hm1
    have HA : Hid (DeAns ⟨1, a, ⟨#[]⟩, d⟩ (.returned (.tuple #[.iface 119 (.agg #[.string a, .string d]), .bool true]))) := Or.inl ⟨⟨⟨by show (1 : Int) ≤ 1; omega, by show (1 : Int) ≤ 3; omega⟩, h2, by rw [if_neg hm2]; exact ⟨rfl, Or.inl rfl⟩⟩, rfl⟩
    clear h2 hm2
    go_enter Try.func48, Try.ntmps48
    go_wp2_with fail
    refine (HNA.out _).mono ?_
    rintro e w1 ⟨rfl, hw⟩
    subst w1
    go_wp2_with fail
    go_ret2
    exact ⟨HA.out, HB.out⟩
  have k4 : (m == 1) = false := beq_eq_false_iff_ne.2 hm1
  have k5 : (m != 1) = true := by rw [bne_iff_ne]; exact hm1
  by_cases hd : d = ⟨#[]⟩
  rotate_left
  · have HA : Hid (DeAns ⟨m, a, ⟨#[]⟩, d⟩ (.returned (.tuple #[.nilIface, .bool false]))) := Or.inr ⟨fun k => by
      have := k.2.2
      rw [if_neg hm2] at this
      rcases this.2 with c | c
      · exact hm1 c
      · exact hd c, _, rfl⟩
    have e1 := emF_no hd
    have e2 := emF_eq hd
    clear hd h2 hm2 hm1
    go_enter Try.func48, Try.ntmps48
    go_wp2_with fail
    refine (HNA.out _).mono ?_
    rintro e w1 ⟨rfl, hw⟩
    subst w1
    go_wp2_with fail
    go_ret2
    exact ⟨HA.out, HB.out⟩
  subst hd
  by_cases hm3 : m = 3
  · subst hm3
    have HA : Hid (DeAns ⟨3, a, ⟨#[]⟩, ⟨#[]⟩⟩ (.returned (.tuple #[.iface 123 (.agg #[.string a]), .bool true]))) := Or.inl ⟨⟨⟨by show (1 : Int) ≤ 3; omega, by show (3 : Int) ≤ 3; omega⟩, h2, by rw [if_neg hm2]; exact ⟨rfl, Or.inr rfl⟩⟩, rfl⟩
    clear h2 hm2 hm1
    go_enter Try.func48, Try.ntmps48
    go_wp2_with fail
    refine (HNA.out _).mono ?_
    rintro e w1 ⟨rfl, hw⟩
    subst w1
    go_wp2_with fail
    go_ret2
    exact ⟨HA.out, HB.out⟩
  have k6 : (m == 3) = false := beq_eq_false_iff_ne.2 hm3
  have HA : Hid (DeAns ⟨m, a, ⟨#[]⟩, ⟨#[]⟩⟩ (.returned (.tuple #[.nilIface, .bool false]))) := Or.inr ⟨fun k => by
    have := k.1
    have this : 1 ≤ m ∧ m ≤ 3 := this
    omega, _, rfl⟩
  clear h2 hm1 hm2 hm3
  go_enter Try.func48, Try.ntmps48
  go_wp2_with fail
  refine (HNA.out _).mono ?_
  rintro e w1 ⟨rfl, hw⟩
  subst w1
  go_wp2_with fail
  go_ret2
  exact ⟨HA.out, HB.out⟩
end Go.Proofs.Ytanlggglbpibfaa
