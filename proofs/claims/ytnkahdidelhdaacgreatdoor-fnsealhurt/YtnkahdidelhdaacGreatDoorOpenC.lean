/-
  Open: the code's.
-/
import Derived.Test.YtnkahdidelhdaacGreatDoorSealC2
namespace Go.Proofs.YtnkahdidelhdaacGreatDoor
open Go.RowKit
set_option linter.unusedVariables false

set_option maxRecDepth 100000 in
set_option maxHeartbeats 1000000 in
theorem opened_tag (m s : ByteArray) (n : Int) (a : Addr) (w : World) (hF : SF w a) (hn1 : -9223372036854775808 ≤ n) (hn2 : n ≤ 9223372036854775807) (hm : m.size = 32) (h32 : 32 ≤ s.size) (hs : s.size ≤ 1073741824)
    (ht : tagB (tagK m) n (bodyOf s) ≠ tailOf s) :
    Calls Tryz.prog 24 #[.string m, .int .i64 n, .string s] w fun e w' => (∃ s, e = .returned (.tuple #[.string ⟨#[]⟩, fltV s a])) ∧ Below w.heap.size w w' := by
  have HA : Hid (∀ w, SF w a → Calls Tryz.prog 23 #[.string m] w fun e w' => e = .returned (.tuple #[.string (ciphK m), .string (tagK m), .nilIface]) ∧ Below w.heap.size w w') := fun w hF => keysOf_yes m a w hF hm
  have HT : Hid (∀ w, SF w a → Calls Tryz.prog 34 #[.string (tagK m), .int .i64 n, .string (s.extract 0 (s.size - 32))] w fun e w' => e = .returned (.string (tagB (tagK m) n (bodyOf s))) ∧ Below w.heap.size w w') := fun w hF => tag_any _ _ n a w hF (tagK_size m) (by have := bodyOf_size h32; unfold bodyOf at this; omega) hn1 hn2
  have hne := toList_ne ht
  have hne2 : ((tagB (tagK m) n (bodyOf s)).toList == (tailOf s).toList) = false := beq_eq_false_iff_ne.2 hne
  have HF : Hid (SF w a) := hF
  have hsub : (s.size : Int) - 32 = ((s.size - 32 : Nat) : Int) := by omega
  have h1 : ¬ (s.size : Int) < 32 := by omega
  unfold tailOf at hne hne2
  generalize tagB (tagK m) n (bodyOf s) = tg at HT hne hne2
  generalize ciphK m = ck at HA
  generalize tagK m = tk at HA HT
  have hq : s.size - 32 ≤ s.size := by omega
  generalize s.size - 32 = q at HT hne hne2 hsub hq
  clear hF ht hm
  go_enter Tryz.func24, Tryz.ntmps24
  go_wp2_with fail
  refine (HA.out _ HF.out).mono ?_
  rintro e w1 ⟨rfl, hb1⟩
  have HT1 : Hid (∀ w', Below w1.heap.size w1 w' → Calls Tryz.prog 34 #[.string tk, .int .i64 n, .string (s.extract 0 q)] w' fun e w'' => e = .returned (.string tg) ∧ Below w1.heap.size w1 w'') := fun w' hb => (HT.out w' ((HF.out.below hb1).below hb)).mono fun e w'' h => ⟨h.1, bl_trans hb h.2 hb.size⟩
  have HR1 : Hid (∀ w', Below w1.heap.size w1 w' → ∀ s, Calls Tryz.prog 41 #[.string s] w' fun e w'' => e = .returned (fltV s a) ∧ w'' = w') := fun w' hb s => refused_any s a w' ((HF.out.below hb1).below hb)
  clear HT HF HA
  go_wp2_with fail
  have hb0 : Below w1.heap.size w1 w1.drew := (Below.refl _ _).drew
  go_region_with (first
    | (go_at_call 34; refine (HT1.out _ hb0).mono ?_; clear hb0; rintro e w' ⟨rfl, hb0⟩))
  all_goals (go_wp2_with fail; refine (HR1.out _ hb0 _).mono ?_; rintro e w' ⟨rfl, hw⟩; subst w'; unfold fltV; go_wp2_with fail; go_ret2; exact ⟨⟨_, rfl⟩, bl_trans hb1 hb0 hb1.size⟩)
set_option maxRecDepth 100000 in
set_option maxHeartbeats 1000000 in
theorem opened_yes (m s : ByteArray) (n : Int) (a : Addr) (w : World) (hF : SF w a) (hn1 : -9223372036854775808 ≤ n) (hn2 : n ≤ 9223372036854775807) (hm : m.size = 32) (h32 : 32 ≤ s.size) (hs : s.size ≤ 1073741824)
    (ht : tagB (tagK m) n (bodyOf s) = tailOf s) (hn : 0 ≤ n ∧ n ≤ 1000000000000) (hl : s.size ≤ 60032) :
    Calls Tryz.prog 24 #[.string m, .int .i64 n, .string s] w fun e w' => e = .returned (.tuple #[.string (openB m n s), .nilIface]) ∧ Below w.heap.size w w' := by
  have HA : Hid (∀ w, SF w a → Calls Tryz.prog 23 #[.string m] w fun e w' => e = .returned (.tuple #[.string (ciphK m), .string (tagK m), .nilIface]) ∧ Below w.heap.size w w') := fun w hF => keysOf_yes m a w hF hm
  have HT : Hid (∀ w, SF w a → Calls Tryz.prog 34 #[.string (tagK m), .int .i64 n, .string (s.extract 0 (s.size - 32))] w fun e w' => e = .returned (.string (s.extract (s.size - 32) s.size)) ∧ Below w.heap.size w w') := fun w hF => by
    have := tag_any _ _ n a w hF (tagK_size m) (by have := bodyOf_size h32; omega : (bodyOf s).size ≤ 1073741824) hn1 hn2
    rw [ht] at this
    exact this
  have HM : Hid (∀ w, SF w a → Calls Tryz.prog 33 #[.string (ciphK m), .int .i64 n, .string (s.extract 0 (s.size - 32))] w fun e w' => e = .returned (.tuple #[.string (openB m n s), .nilIface]) ∧ Below w.heap.size w w') := fun w hF => masked_yes _ _ n w (ciphK_size m) hn (by have := bodyOf_size h32; unfold bodyOf at this; omega)
  generalize openB m n s = R at HM ⊢
  have HF : Hid (SF w a) := hF
  have hsub : (s.size : Int) - 32 = ((s.size - 32 : Nat) : Int) := by omega
  have h1 : ¬ (s.size : Int) < 32 := by omega
  clear ht
  generalize ciphK m = ck at HA HM
  generalize tagK m = tk at HA HT
  have hq : s.size - 32 ≤ s.size := by omega
  generalize s.size - 32 = q at HT HM hsub hq
  clear hF hm
  go_enter Tryz.func24, Tryz.ntmps24
  go_wp2_with fail
  refine (HA.out _ HF.out).mono ?_
  rintro e w1 ⟨rfl, hb1⟩
  have HT1 : Hid (∀ w', Below w1.heap.size w1 w' → Calls Tryz.prog 34 #[.string tk, .int .i64 n, .string (s.extract 0 q)] w' fun e w'' => e = .returned (.string (s.extract q s.size)) ∧ Below w1.heap.size w1 w'') := fun w' hb => (HT.out w' ((HF.out.below hb1).below hb)).mono fun e w'' h => ⟨h.1, bl_trans hb h.2 hb.size⟩
  have HM1 : Hid (∀ w', Below w1.heap.size w1 w' → Calls Tryz.prog 33 #[.string ck, .int .i64 n, .string (s.extract 0 q)] w' fun e w'' => e = .returned (.tuple #[.string R, .nilIface]) ∧ Below w1.heap.size w1 w'') := fun w' hb => (HM.out w' ((HF.out.below hb1).below hb)).mono fun e w'' h => ⟨h.1, bl_trans hb h.2 hb.size⟩
  clear HT HF HA HM
  go_wp2_with fail
  have hb0 : Below w1.heap.size w1 w1.drew := (Below.refl _ _).drew
  go_region_with (first
    | (go_at_call 34; refine (HT1.out _ hb0).mono ?_; clear hb0; rintro e w' ⟨rfl, hb0⟩))
  all_goals (go_wp2_with fail; refine (HM1.out _ hb0).mono ?_; rintro e w' ⟨rfl, hb5⟩; go_wp2_with fail; go_ret2; exact ⟨rfl, bl_trans hb1 hb5 hb1.size⟩)
set_option maxRecDepth 100000 in
set_option maxHeartbeats 1000000 in
theorem opened_bad (m s : ByteArray) (n : Int) (a : Addr) (w : World) (hF : SF w a) (hn1 : -9223372036854775808 ≤ n) (hn2 : n ≤ 9223372036854775807) (hm : m.size = 32) (h32 : 32 ≤ s.size) (hs : s.size ≤ 1073741824)
    (ht : tagB (tagK m) n (bodyOf s) = tailOf s) (hx : ¬ ((0 ≤ n ∧ n ≤ 1000000000000) ∧ s.size ≤ 60032)) :
    Calls Tryz.prog 24 #[.string m, .int .i64 n, .string s] w fun e w' => (∃ s, e = .returned (.tuple #[.string ⟨#[]⟩, fltV s a])) ∧ Below w.heap.size w w' := by
  have HA : Hid (∀ w, SF w a → Calls Tryz.prog 23 #[.string m] w fun e w' => e = .returned (.tuple #[.string (ciphK m), .string (tagK m), .nilIface]) ∧ Below w.heap.size w w') := fun w hF => keysOf_yes m a w hF hm
  have HT : Hid (∀ w, SF w a → Calls Tryz.prog 34 #[.string (tagK m), .int .i64 n, .string (s.extract 0 (s.size - 32))] w fun e w' => e = .returned (.string (s.extract (s.size - 32) s.size)) ∧ Below w.heap.size w w') := fun w hF => by
    have := tag_any _ _ n a w hF (tagK_size m) (by have := bodyOf_size h32; omega : (bodyOf s).size ≤ 1073741824) hn1 hn2
    rw [ht] at this
    exact this
  have HM : Hid (∀ w, SF w a → Calls Tryz.prog 33 #[.string (ciphK m), .int .i64 n, .string (s.extract 0 (s.size - 32))] w fun e w' => (∃ s, e = .returned (.tuple #[.string ⟨#[]⟩, fltV s a])) ∧ Below w.heap.size w w') := fun w hF => by
    by_cases hn : 0 ≤ n ∧ n ≤ 1000000000000
    · exact masked_long _ _ n a w hF hn (fun hd => hx ⟨hn, by have := bodyOf_size h32; unfold bodyOf at this; omega⟩)
    · refine (masked_num _ _ n a w hF hn).mono ?_
      rintro e w' ⟨he, rfl⟩
      exact ⟨he, Below.refl _ _⟩
  have HF : Hid (SF w a) := hF
  have hsub : (s.size : Int) - 32 = ((s.size - 32 : Nat) : Int) := by omega
  have h1 : ¬ (s.size : Int) < 32 := by omega
  clear ht
  generalize ciphK m = ck at HA HM
  generalize tagK m = tk at HA HT
  have hq : s.size - 32 ≤ s.size := by omega
  generalize s.size - 32 = q at HT HM hsub hq
  clear hF hm
  go_enter Tryz.func24, Tryz.ntmps24
  go_wp2_with fail
  refine (HA.out _ HF.out).mono ?_
  rintro e w1 ⟨rfl, hb1⟩
  have HT1 : Hid (∀ w', Below w1.heap.size w1 w' → Calls Tryz.prog 34 #[.string tk, .int .i64 n, .string (s.extract 0 q)] w' fun e w'' => e = .returned (.string (s.extract q s.size)) ∧ Below w1.heap.size w1 w'') := fun w' hb => (HT.out w' ((HF.out.below hb1).below hb)).mono fun e w'' h => ⟨h.1, bl_trans hb h.2 hb.size⟩
  have HM1 : Hid (∀ w', Below w1.heap.size w1 w' → Calls Tryz.prog 33 #[.string ck, .int .i64 n, .string (s.extract 0 q)] w' fun e w'' => (∃ s, e = .returned (.tuple #[.string ⟨#[]⟩, fltV s a])) ∧ Below w1.heap.size w1 w'') := fun w' hb => (HM.out w' ((HF.out.below hb1).below hb)).mono fun e w'' h => ⟨h.1, bl_trans hb h.2 hb.size⟩
  clear HT HF HA HM
  go_wp2_with fail
  have hb0 : Below w1.heap.size w1 w1.drew := (Below.refl _ _).drew
  go_region_with (first
    | (go_at_call 34; refine (HT1.out _ hb0).mono ?_; clear hb0; rintro e w' ⟨rfl, hb0⟩))
  all_goals (go_wp2_with fail; refine (HM1.out _ hb0).mono ?_; rintro e w' ⟨⟨s2, rfl⟩, hb5⟩; unfold fltV; go_wp2_with fail; go_ret2; exact ⟨⟨_, rfl⟩, bl_trans hb1 hb5 hb1.size⟩)
set_option maxRecDepth 100000 in
theorem opened_short (m s : ByteArray) (n : Int) (a : Addr) (w : World) (hF : SF w a) (hm : m.size = 32) (h32 : ¬ 32 ≤ s.size) :
    Calls Tryz.prog 24 #[.string m, .int .i64 n, .string s] w fun e w' => (∃ s, e = .returned (.tuple #[.string ⟨#[]⟩, fltV s a])) ∧ Below w.heap.size w w' := by
  have HA : Hid (∀ w, SF w a → Calls Tryz.prog 23 #[.string m] w fun e w' => e = .returned (.tuple #[.string (ciphK m), .string (tagK m), .nilIface]) ∧ Below w.heap.size w w') := fun w hF => keysOf_yes m a w hF hm
  have HR : Hid (∀ w', Below w.heap.size w w' → ∀ s, Calls Tryz.prog 41 #[.string s] w' fun e w'' => e = .returned (fltV s a) ∧ w'' = w') := fun w' hb s => refused_any s a w' (hF.below hb)
  have HF : Hid (SF w a) := hF
  have h1 : (s.size : Int) < 32 := by omega
  clear hF hm
  generalize ciphK m = ck at HA
  generalize tagK m = tk at HA
  go_enter Tryz.func24, Tryz.ntmps24
  go_wp2_with fail
  refine (HA.out _ HF.out).mono ?_
  rintro e w1 ⟨rfl, hb1⟩
  go_wp2_with fail
  refine (HR.out _ hb1 _).mono ?_
  rintro e w' ⟨rfl, hw⟩
  subst w'
  unfold fltV
  go_wp2_with fail
  go_ret2
  exact ⟨⟨_, rfl⟩, hb1⟩
set_option maxRecDepth 100000 in
theorem opened_key (m s : ByteArray) (n : Int) (a : Addr) (w : World) (hF : SF w a) (hm : m.size ≠ 32) :
    Calls Tryz.prog 24 #[.string m, .int .i64 n, .string s] w fun e w' => (∃ s, e = .returned (.tuple #[.string ⟨#[]⟩, fltV s a])) ∧ Below w.heap.size w w' := by
  have HA : Hid (Calls Tryz.prog 23 #[.string m] w fun e w' => (∃ s, e = .returned (.tuple #[.string ⟨#[]⟩, .string ⟨#[]⟩, fltV s a])) ∧ w' = w) := keysOf_no m a w hF hm
  clear hF hm
  go_enter Tryz.func24, Tryz.ntmps24
  go_wp2_with fail
  refine HA.out.mono ?_
  rintro e w' ⟨⟨s, rfl⟩, hw⟩
  subst w'
  unfold fltV
  go_wp2_with fail
  go_ret2
  exact ⟨⟨_, rfl⟩, Below.refl _ _⟩
theorem opened_no (m s : ByteArray) (n : Int) (a : Addr) (w : World) (hF : SF w a) (hn1 : -9223372036854775808 ≤ n) (hn2 : n ≤ 9223372036854775807) (hs : s.size ≤ 1073741824) (h : ¬ openOk m n s) :
    Calls Tryz.prog 24 #[.string m, .int .i64 n, .string s] w fun e w' => (∃ s, e = .returned (.tuple #[.string ⟨#[]⟩, fltV s a])) ∧ Below w.heap.size w w' := by
  by_cases hm : m.size = 32
  · by_cases h32 : 32 ≤ s.size
    · by_cases ht : tagB (tagK m) n (bodyOf s) = tailOf s
      · exact opened_bad m s n a w hF hn1 hn2 hm h32 hs ht (fun c => h ⟨hm, c.1, h32, c.2, ht⟩)
      · exact opened_tag m s n a w hF hn1 hn2 hm h32 hs ht
    · exact opened_short m s n a w hF hm h32
  · exact opened_key m s n a w hF hm
set_option maxRecDepth 100000 in
theorem open_yes (m s : ByteArray) (n : Int) (a : Addr) (w : World) (hF : SF w a) (h : openOk m n s) :
    Calls Tryz.prog 10 #[.string m, .int .i64 n, .string s] w fun e w' => e = .returned (.tuple #[.string (openB m n s), .bool true]) ∧ Below w.heap.size w w' := by
  obtain ⟨h1, h2, h3, h4, h5⟩ := h
  have HA : Hid (Calls Tryz.prog 24 #[.string m, .int .i64 n, .string s] w fun e w' => e = .returned (.tuple #[.string (openB m n s), .nilIface]) ∧ Below w.heap.size w w') := opened_yes m s n a w hF (by omega) (by omega) h1 h3 (by omega) h5 h2 h4
  have HF : Hid (SF w a) := hF
  clear hF h1 h2 h3 h4 h5
  generalize openB m n s = R at HA ⊢
  go_enter Tryz.func10, Tryz.ntmps10
  go_wp2_with fail
  refine HA.out.mono ?_
  rintro e w1 ⟨rfl, hb1⟩
  have hE := (HF.out.below hb1).hE
  unfold refV at hE
  go_wp2_with fail
  refine SF.is_nil.mono ?_
  rintro e w' ⟨rfl, hw⟩
  subst w'
  go_wp2_with fail
  go_ret2
  exact ⟨rfl, hb1⟩
set_option maxRecDepth 100000 in
theorem open_no (m s : ByteArray) (n : Int) (a : Addr) (w : World) (hF : SF w a) (hn1 : -9223372036854775808 ≤ n) (hn2 : n ≤ 9223372036854775807) (hs : s.size ≤ 1073741824) (h : ¬ openOk m n s) :
    Calls Tryz.prog 10 #[.string m, .int .i64 n, .string s] w fun e w' => e = .returned (.tuple #[.string ⟨#[]⟩, .bool false]) ∧ Below w.heap.size w w' := by
  have HA : Hid (Calls Tryz.prog 24 #[.string m, .int .i64 n, .string s] w fun e w' => (∃ s, e = .returned (.tuple #[.string ⟨#[]⟩, fltV s a])) ∧ Below w.heap.size w w') := opened_no m s n a w hF hn1 hn2 hs h
  have HF : Hid (SF w a) := hF
  clear hF h
  go_enter Tryz.func10, Tryz.ntmps10
  go_wp2_with fail
  refine HA.out.mono ?_
  rintro e w1 ⟨⟨s2, rfl⟩, hb1⟩
  have hE := (HF.out.below hb1).hE
  unfold refV at hE
  unfold fltV
  go_wp2_with fail
  refine (SF.is_flt s2).mono ?_
  rintro e w2 ⟨rfl, hb2⟩
  have hb3 := bl_trans hb1 hb2 hb1.size
  clear hb1 hb2
  go_wp2_with fail
  go_ret2
  exact ⟨rfl, hb3⟩
end Go.Proofs.YtnkahdidelhdaacGreatDoor
