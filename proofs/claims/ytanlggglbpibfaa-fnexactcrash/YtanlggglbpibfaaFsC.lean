/-
  A set of files: whether it fits, has a name; what a deed wants; whether it is found.
-/
import Derived.Test.YtanlggglbpibfaaFsA
import Derived.Test.YtanlggglbpibfaaSfD
import Derived.Maps.OwnOps
namespace Go.Proofs.Ytanlggglbpibfaa
open Go.RowKit
open Go.Maps (Keyed)
set_option linter.unusedVariables false
set_option linter.unusedSimpArgs false
def apV (a d : ByteArray) : Value := .iface 119 (.agg #[.string a, .string d])
def rnV (a p : ByteArray) : Value := .iface 121 (.agg #[.string a, .string p])
def rmV (a : ByteArray) : Value := .iface 123 (.agg #[.string a])
theorem name15_any (s : ByteArray) (w : World) : Calls Try.prog 83 #[.string s] w fun e w' => e = .returned (.bool (decide (nmOk s))) ∧ w' = w := by
  by_cases h0 : s = ⟨#[]⟩
  · subst h0
    have hd : decide (nmOk ⟨#[]⟩) = false := decide_eq_false fun h => absurd h.1 (by decide)
    rw [hd]
    go_enter Try.func83, Try.ntmps83
    go_wp2_with fail
    go_ret
    exact ⟨rfl, rfl⟩
  · have e1 := emF_no h0
    have e2 := emF_eq h0
    have hpos : 1 ≤ s.size := by
      apply Classical.byContradiction
      intro hc
      apply h0
      have : s.size = 0 := by omega
      apply ByteArray.ext
      exact Array.eq_empty_of_size_eq_zero this
    by_cases h2 : (s.size : Int) ≤ 100
    · have hd : decide (nmOk s) = true := decide_eq_true ⟨hpos, by omega⟩
      rw [hd]
      clear hd h0
      go_enter Try.func83, Try.ntmps83
      go_wp2_with fail
      go_ret
      exact ⟨rfl, rfl⟩
    · have hd : decide (nmOk s) = false := decide_eq_false fun h => h2 (by have := h.2; omega)
      rw [hd]
      clear hd h0
      go_enter Try.func83, Try.ntmps83
      go_wp2_with fail
      go_ret
      exact ⟨rfl, rfl⟩
theorem wantsA_any (a d : ByteArray) (w : World) : Calls Try.prog 144 #[.agg #[.string a, .string d]] w fun e w' => e = .returned (.string ⟨#[]⟩) ∧ w' = w.alloc (.cells #[.string a, .string d] 119) := by
  go_enter Try.func144, Try.ntmps144
  go_wp2_with fail
  go_ret
  exact ⟨rfl, rfl⟩
theorem wantsN_any (a p : ByteArray) (w : World) : Calls Try.prog 145 #[.agg #[.string a, .string p]] w fun e w' => e = .returned (.string a) ∧ w' = w.alloc (.cells #[.string a, .string p] 121) := by
  go_enter Try.func145, Try.ntmps145
  go_wp2_with fail
  go_ret
  exact ⟨rfl, rfl⟩
theorem wantsM_any (a : ByteArray) (w : World) : Calls Try.prog 146 #[.agg #[.string a]] w fun e w' => e = .returned (.string a) ∧ w' = w.alloc (.cells #[.string a] 123) := by
  go_enter Try.func146, Try.ntmps146
  go_wp2_with fail
  go_ret
  exact ⟨rfl, rfl⟩
set_option maxRecDepth 100000 in
set_option maxHeartbeats 1000000 in
theorem has15_any {lo p mb n : Nat} {L : List FlI} {V : ByteArray → Value} (s : ByteArray) (w : World) (h : FsW w lo p mb L V n) (hs : s.size ≤ 1500000) :
    Calls Try.prog 60 #[.pointer (some ⟨p, 0, none⟩), .string s] w fun e w' => e = .returned (.bool (fdF L s).isSome) ∧ w' = w := by
  have c0 := cell_of_row _ _ 0 _ _ _ h.box
  cases hf : fdF L s with
  | none =>
    have hl := (h.look_no hs hf).1
    clear h hf
    go_enter Try.func60, Try.ntmps60
    go_wp2_with fail
    go_ret
    exact ⟨rfl, rfl⟩
  | some d =>
    have hl := (h.look_yes hs hf).1.1
    clear h hf
    go_enter Try.func60, Try.ntmps60
    go_wp2_with fail
    go_ret
    exact ⟨rfl, rfl⟩
set_option maxRecDepth 100000 in
set_option maxHeartbeats 1000000 in
theorem fits15_any {lo p mb n : Nat} {L : List FlI} {V : ByteArray → Value} (w : World) (h : FsW w lo p mb L V n) :
    Calls Try.prog 50 #[.pointer (some ⟨p, 0, none⟩)] w fun e w' => e = .returned (.bool (decide (L.length ≤ 60 ∧ n ≤ 200000))) ∧ w' = w := by
  have c0 := cell_of_row _ _ 0 _ _ _ h.box
  have c1 := cell_of_row _ _ 1 _ _ _ h.box
  have hl := fun ty => h.map.len Try.underlying96 ty
  obtain ⟨m, hm⟩ : ∃ m, m = L.length := ⟨_, rfl⟩
  rw [← hm] at hl ⊢
  clear h hm
  by_cases h1 : (m : Int) ≤ 60
  · by_cases h2 : (n : Int) ≤ 200000
    · have hd : decide (m ≤ 60 ∧ n ≤ 200000) = true := decide_eq_true ⟨by omega, by omega⟩
      rw [hd]
      clear hd
      go_enter Try.func50, Try.ntmps50
      go_wp2_with fail
      go_ret
      exact ⟨rfl, rfl⟩
    · have hd : decide (m ≤ 60 ∧ n ≤ 200000) = false := decide_eq_false fun h => h2 (by omega)
      rw [hd]
      clear hd
      go_enter Try.func50, Try.ntmps50
      go_wp2_with fail
      go_ret
      exact ⟨rfl, rfl⟩
  · have hd : decide (m ≤ 60 ∧ n ≤ 200000) = false := decide_eq_false fun h => h1 (by omega)
    rw [hd]
    clear hd
    go_enter Try.func50, Try.ntmps50
    go_wp2_with fail
    go_ret
    exact ⟨rfl, rfl⟩
set_option maxRecDepth 100000 in
set_option maxHeartbeats 1000000 in
theorem findsA_any (p : Nat) (a d : ByteArray) (w : World) :
    Calls Try.prog 84 #[.pointer (some ⟨p, 0, none⟩), apV a d] w fun e w' => e = .returned (.bool true) ∧ Below w.heap.size w w' := by
  have hm : ∀ w : World, (method 81 119 (.agg #[.string a, .string d]) "loop.example/g00228/impl.wants").run Try.prog w = .ok (144, .agg #[.string a, .string d]) w := fun _ => by kernel_rfl
  have HW : Hid (∀ w, Calls Try.prog 144 #[.agg #[.string a, .string d]] w fun e w' => e = .returned (.string ⟨#[]⟩) ∧ w' = w.alloc (.cells #[.string a, .string d] 119)) := fun w => wantsA_any a d w
  have HB : Hid (Below w.heap.size w (w.alloc (.cells #[.string a, .string d] 119))) := (Below.refl _ _).alloc (Nat.le_refl _) _
  unfold apV
  go_enter Try.func84, Try.ntmps84
  go_wp2_with fail
  refine (HW.out _).mono ?_
  rintro e w1 ⟨rfl, rfl⟩
  go_wp2_with fail
  go_ret
  exact ⟨rfl, HB.out⟩
set_option maxRecDepth 100000 in
set_option maxHeartbeats 1000000 in
theorem findsN_any {lo p mb n : Nat} {L : List FlI} {V : ByteArray → Value} (a q : ByteArray) (w : World) (h : FsW w lo p mb L V n) (ha : a ≠ ⟨#[]⟩) (hs : a.size ≤ 1500000) :
    Calls Try.prog 84 #[.pointer (some ⟨p, 0, none⟩), rnV a q] w fun e w' => e = .returned (.bool (fdF L a).isSome) ∧ Below w.heap.size w w' := by
  have hm : ∀ w : World, (method 81 121 (.agg #[.string a, .string q]) "loop.example/g00228/impl.wants").run Try.prog w = .ok (145, .agg #[.string a, .string q]) w := fun _ => by kernel_rfl
  have HW : Hid (∀ w, Calls Try.prog 145 #[.agg #[.string a, .string q]] w fun e w' => e = .returned (.string a) ∧ w' = w.alloc (.cells #[.string a, .string q] 121)) := fun w => wantsN_any a q w
  have HB1 : Hid (Below w.heap.size w (w.alloc (.cells #[.string a, .string q] 121))) := (Below.refl _ _).alloc (Nat.le_refl _) _
  have HB2 : Hid (Below w.heap.size w ((w.alloc (.cells #[.string a, .string q] 121)).alloc (.cells #[.string a, .string q] 121))) := HB1.out.alloc HB1.out.size _
  have HH : Hid (Calls Try.prog 60 #[.pointer (some ⟨p, 0, none⟩), .string a] ((w.alloc (.cells #[.string a, .string q] 121)).alloc (.cells #[.string a, .string q] 121)) fun e w' => e = .returned (.bool (fdF L a).isSome) ∧ w' = ((w.alloc (.cells #[.string a, .string q] 121)).alloc (.cells #[.string a, .string q] 121))) := has15_any a _ (h.under HB2.out) hs
  have e1 := emF_no ha
  have e2 := emF_eq ha
  generalize (fdF L a).isSome = r at HH ⊢
  clear h ha
  unfold rnV
  go_enter Try.func84, Try.ntmps84
  go_wp2_with fail
  refine (HW.out _).mono ?_
  rintro e w1 ⟨rfl, rfl⟩
  go_wp2_with fail
  refine (HW.out _).mono ?_
  rintro e w1 ⟨rfl, rfl⟩
  go_wp2_with fail
  refine HH.out.mono ?_
  rintro e w1 ⟨rfl, rfl⟩
  go_wp2_with fail
  go_ret
  exact ⟨rfl, HB2.out⟩
set_option maxRecDepth 100000 in
set_option maxHeartbeats 1000000 in
theorem findsM_any {lo p mb n : Nat} {L : List FlI} {V : ByteArray → Value} (a : ByteArray) (w : World) (h : FsW w lo p mb L V n) (ha : a ≠ ⟨#[]⟩) (hs : a.size ≤ 1500000) :
    Calls Try.prog 84 #[.pointer (some ⟨p, 0, none⟩), rmV a] w fun e w' => e = .returned (.bool (fdF L a).isSome) ∧ Below w.heap.size w w' := by
  have hm : ∀ w : World, (method 81 123 (.agg #[.string a]) "loop.example/g00228/impl.wants").run Try.prog w = .ok (146, .agg #[.string a]) w := fun _ => by kernel_rfl
  have HW : Hid (∀ w, Calls Try.prog 146 #[.agg #[.string a]] w fun e w' => e = .returned (.string a) ∧ w' = w.alloc (.cells #[.string a] 123)) := fun w => wantsM_any a w
  have HB1 : Hid (Below w.heap.size w (w.alloc (.cells #[.string a] 123))) := (Below.refl _ _).alloc (Nat.le_refl _) _
  have HB2 : Hid (Below w.heap.size w ((w.alloc (.cells #[.string a] 123)).alloc (.cells #[.string a] 123))) := HB1.out.alloc HB1.out.size _
  have HH : Hid (Calls Try.prog 60 #[.pointer (some ⟨p, 0, none⟩), .string a] ((w.alloc (.cells #[.string a] 123)).alloc (.cells #[.string a] 123)) fun e w' => e = .returned (.bool (fdF L a).isSome) ∧ w' = ((w.alloc (.cells #[.string a] 123)).alloc (.cells #[.string a] 123))) := has15_any a _ (h.under HB2.out) hs
  have e1 := emF_no ha
  have e2 := emF_eq ha
  generalize (fdF L a).isSome = r at HH ⊢
  clear h ha
  unfold rmV
  go_enter Try.func84, Try.ntmps84
  go_wp2_with fail
  refine (HW.out _).mono ?_
  rintro e w1 ⟨rfl, rfl⟩
  go_wp2_with fail
  refine (HW.out _).mono ?_
  rintro e w1 ⟨rfl, rfl⟩
  go_wp2_with fail
  refine HH.out.mono ?_
  rintro e w1 ⟨rfl, rfl⟩
  go_wp2_with fail
  go_ret
  exact ⟨rfl, HB2.out⟩
end Go.Proofs.Ytanlggglbpibfaa
