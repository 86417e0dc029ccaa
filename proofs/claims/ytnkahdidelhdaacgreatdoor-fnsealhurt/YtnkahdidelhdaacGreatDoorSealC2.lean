/-
  Keys, Seal and Open: the code's.
-/
import Derived.Test.YtnkahdidelhdaacGreatDoorSealC
namespace Go.Proofs.YtnkahdidelhdaacGreatDoor
open Go.RowKit
set_option linter.unusedVariables false

theorem SF.is_nil {w : World} {a : Addr} : Calls Tryz.prog 17 #[.nilIface, .iface 132 (.pointer (some a))] w fun e w' => e = .returned (.bool false) ∧ w' = w := Go.Proofs.YtnkahdidelhdaacGreatDoor.is_nil a w
theorem SF.is_flt {w : World} {a : Addr} (s : ByteArray) : Calls Tryz.prog 17 #[.iface 96 (.agg #[.string s, .iface 132 (.pointer (some a))]), .iface 132 (.pointer (some a))] w fun e w' => e = .returned (.bool true) ∧ Below w.heap.size w w' := is_fault s a w
set_option maxRecDepth 100000 in
theorem keys_yes (m : ByteArray) (a : Addr) (w : World) (hF : SF w a) (h : m.size = 32) :
    Calls Tryz.prog 8 #[.string m] w fun e w' => e = .returned (.tuple #[.string (ciphK m), .string (tagK m), .bool true]) ∧ Below w.heap.size w w' := by
  have HA : Hid (∀ w, SF w a → Calls Tryz.prog 23 #[.string m] w fun e w' => e = .returned (.tuple #[.string (ciphK m), .string (tagK m), .nilIface]) ∧ Below w.heap.size w w') := fun w hF => keysOf_yes m a w hF h
  have HF : Hid (SF w a) := hF
  clear hF h
  generalize ciphK m = ck at HA ⊢
  generalize tagK m = tk at HA ⊢
  go_enter Tryz.func8, Tryz.ntmps8
  go_wp2_with fail
  refine (HA.out _ HF.out).mono ?_
  rintro e w1 ⟨rfl, hb1⟩
  have hE := (HF.out.below hb1).hE
  unfold refV at hE
  go_wp2_with fail
  refine SF.is_nil.mono ?_
  rintro e w' ⟨rfl, hw⟩
  subst w'
  go_wp2_with fail
  go_ret3
  exact ⟨rfl, hb1⟩
set_option maxRecDepth 100000 in
theorem keys_no (m : ByteArray) (a : Addr) (w : World) (hF : SF w a) (h : m.size ≠ 32) :
    Calls Tryz.prog 8 #[.string m] w fun e w' => e = .returned (.tuple #[.string ⟨#[]⟩, .string ⟨#[]⟩, .bool false]) ∧ Below w.heap.size w w' := by
  have HA : Hid (Calls Tryz.prog 23 #[.string m] w fun e w' => (∃ s, e = .returned (.tuple #[.string ⟨#[]⟩, .string ⟨#[]⟩, fltV s a])) ∧ w' = w) := keysOf_no m a w hF h
  have hE := hF.hE
  unfold refV at hE
  clear hF h
  go_enter Tryz.func8, Tryz.ntmps8
  go_wp2_with fail
  refine HA.out.mono ?_
  rintro e w' ⟨⟨s, rfl⟩, hw⟩
  subst w'
  unfold fltV
  go_wp2_with fail
  refine (SF.is_flt s).mono ?_
  rintro e w2 ⟨rfl, hb2⟩
  go_wp2_with fail
  go_ret3
  exact ⟨rfl, hb2⟩
set_option maxRecDepth 100000 in
theorem sealed_yes (m d : ByteArray) (n : Int) (a : Addr) (w : World) (hF : SF w a) (h : sealOk m n d) :
    Calls Tryz.prog 16 #[.string m, .int .i64 n, .string d] w fun e w' => e = .returned (.tuple #[.string (sealB m n d), .nilIface]) ∧ Below w.heap.size w w' := by
  obtain ⟨hm, hn, hd⟩ := h
  have hz := maskedB_size (ciphK m) n d
  have HA : Hid (∀ w, SF w a → Calls Tryz.prog 23 #[.string m] w fun e w' => e = .returned (.tuple #[.string (ciphK m), .string (tagK m), .nilIface]) ∧ Below w.heap.size w w') := fun w hF => keysOf_yes m a w hF hm
  have HB : Hid (∀ w, Calls Tryz.prog 33 #[.string (ciphK m), .int .i64 n, .string d] w fun e w' => e = .returned (.tuple #[.string (maskedB (ciphK m) n d), .nilIface]) ∧ Below w.heap.size w w') := fun w => masked_yes _ d n w (ciphK_size m) hn hd
  have HC : Hid (∀ w, SF w a → Calls Tryz.prog 34 #[.string (tagK m), .int .i64 n, .string (maskedB (ciphK m) n d)] w fun e w' => e = .returned (.string (tagB (tagK m) n (maskedB (ciphK m) n d))) ∧ Below w.heap.size w w') := fun w hF => tag_any _ _ n a w hF (tagK_size m) (by omega) (by omega) (by omega)
  have hzt := tagB_size (tagK m) n (maskedB (ciphK m) n d)
  have HF : Hid (SF w a) := hF
  clear hF hm hn
  unfold sealB
  generalize tagB (tagK m) n (maskedB (ciphK m) n d) = tg at HC hzt ⊢
  generalize maskedB (ciphK m) n d = bd at HB HC hz ⊢
  generalize ciphK m = ck at HA HB
  generalize tagK m = tk at HA HC
  go_enter Tryz.func16, Tryz.ntmps16
  go_wp2_with fail
  refine (HA.out _ HF.out).mono ?_
  rintro e w1 ⟨rfl, hb1⟩
  go_wp2_with fail
  refine (HB.out _).mono ?_
  rintro e w2 ⟨rfl, hb2⟩
  have hb3 := bl_trans hb1 hb2 hb1.size
  clear hb1 hb2
  go_wp2_with fail
  refine (HC.out _ (HF.out.below hb3)).mono ?_
  rintro e w4 ⟨rfl, hb4⟩
  have hb5 := bl_trans hb3 hb4 hb3.size
  clear hb3 hb4
  go_wp2_with fail
  go_ret2
  exact ⟨rfl, hb5⟩
set_option maxRecDepth 100000 in
theorem sealed_no (m d : ByteArray) (n : Int) (a : Addr) (w : World) (hF : SF w a) (h : ¬ sealOk m n d) :
    Calls Tryz.prog 16 #[.string m, .int .i64 n, .string d] w fun e w' => (∃ s, e = .returned (.tuple #[.string ⟨#[]⟩, fltV s a])) ∧ Below w.heap.size w w' := by
  by_cases hm : m.size = 32
  · have HA : Hid (∀ w, SF w a → Calls Tryz.prog 23 #[.string m] w fun e w' => e = .returned (.tuple #[.string (ciphK m), .string (tagK m), .nilIface]) ∧ Below w.heap.size w w') := fun w hF => keysOf_yes m a w hF hm
    have HB : Hid (∀ w, SF w a → Calls Tryz.prog 33 #[.string (ciphK m), .int .i64 n, .string d] w fun e w' => (∃ s, e = .returned (.tuple #[.string ⟨#[]⟩, fltV s a])) ∧ Below w.heap.size w w') := fun w hF => by
      by_cases hn : 0 ≤ n ∧ n ≤ 1000000000000
      · exact masked_long _ d n a w hF hn (fun hd => h ⟨hm, hn, hd⟩)
      · refine (masked_num (ciphK m) d n a w hF hn).mono ?_
        rintro e w' ⟨he, rfl⟩
        exact ⟨he, Below.refl _ _⟩
    have HF : Hid (SF w a) := hF
    clear hF hm h
    generalize ciphK m = ck at HA HB
    generalize tagK m = tk at HA
    go_enter Tryz.func16, Tryz.ntmps16
    go_wp2_with fail
    refine (HA.out _ HF.out).mono ?_
    rintro e w1 ⟨rfl, hb1⟩
    go_wp2_with fail
    refine (HB.out _ (HF.out.below hb1)).mono ?_
    rintro e w2 ⟨⟨s, rfl⟩, hb2⟩
    have hb3 := bl_trans hb1 hb2 hb1.size
    clear hb1 hb2
    unfold fltV
    go_wp2_with fail
    go_ret2
    exact ⟨⟨_, rfl⟩, hb3⟩
  · have HA : Hid (Calls Tryz.prog 23 #[.string m] w fun e w' => (∃ s, e = .returned (.tuple #[.string ⟨#[]⟩, .string ⟨#[]⟩, fltV s a])) ∧ w' = w) := keysOf_no m a w hF hm
    clear hF hm h
    go_enter Tryz.func16, Tryz.ntmps16
    go_wp2_with fail
    refine HA.out.mono ?_
    rintro e w' ⟨⟨s, rfl⟩, hw⟩
    subst w'
    unfold fltV
    go_wp2_with fail
    go_ret2
    exact ⟨⟨_, rfl⟩, Below.refl _ _⟩
set_option maxRecDepth 100000 in
theorem seal_yes (m d : ByteArray) (n : Int) (a : Addr) (w : World) (hF : SF w a) (h : sealOk m n d) :
    Calls Tryz.prog 6 #[.string m, .int .i64 n, .string d] w fun e w' => e = .returned (.tuple #[.string (sealB m n d), .bool true]) ∧ Below w.heap.size w w' := by
  have HA : Hid (Calls Tryz.prog 16 #[.string m, .int .i64 n, .string d] w fun e w' => e = .returned (.tuple #[.string (sealB m n d), .nilIface]) ∧ Below w.heap.size w w') := sealed_yes m d n a w hF h
  have HF : Hid (SF w a) := hF
  clear hF h
  generalize sealB m n d = R at HA ⊢
  go_enter Tryz.func6, Tryz.ntmps6
  go_wp2_with fail
  refine HA.out.mono ?_
  rintro e w1 ⟨rfl, hb1⟩
  have hE := (HF.out.below hb1).hE
  unfold refV at hE
  go_wp2_with fail
  refine SF.is_nil.mono ?_
  rintro e w' ⟨rfl, hw⟩
  subst w'
  go_wp2_with fail
  go_ret2
  exact ⟨rfl, hb1⟩
set_option maxRecDepth 100000 in
theorem seal_no (m d : ByteArray) (n : Int) (a : Addr) (w : World) (hF : SF w a) (h : ¬ sealOk m n d) :
    Calls Tryz.prog 6 #[.string m, .int .i64 n, .string d] w fun e w' => e = .returned (.tuple #[.string ⟨#[]⟩, .bool false]) ∧ Below w.heap.size w w' := by
  have HA : Hid (Calls Tryz.prog 16 #[.string m, .int .i64 n, .string d] w fun e w' => (∃ s, e = .returned (.tuple #[.string ⟨#[]⟩, fltV s a])) ∧ Below w.heap.size w w') := sealed_no m d n a w hF h
  have HF : Hid (SF w a) := hF
  clear hF h
  go_enter Tryz.func6, Tryz.ntmps6
  go_wp2_with fail
  refine HA.out.mono ?_
  rintro e w1 ⟨⟨s, rfl⟩, hb1⟩
  have hE := (HF.out.below hb1).hE
  unfold refV at hE
  unfold fltV
  go_wp2_with fail
  refine (SF.is_flt s).mono ?_
  rintro e w2 ⟨rfl, hb2⟩
  have hb3 := bl_trans hb1 hb2 hb1.size
  clear hb1 hb2
  go_wp2_with fail
  go_ret2
  exact ⟨rfl, hb3⟩
end Go.Proofs.YtnkahdidelhdaacGreatDoor
