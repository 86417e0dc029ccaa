/-
  The text of pieces.
-/
import Derived.Test.YtpeddaljgmkomaaPcsC
import Derived.Test.YtpeddaljgmkomaaPutText
namespace Go.Proofs.Ytpeddaljgmkomaa
open Go.RowKit
set_option linter.unusedVariables false
def putB (n : Nat) : ByteArray := ⟨(put n).toArray⟩
theorem putB_size {n : Nat} (h : n < 18446744073709551616) : (putB n).size ≤ 10 := by
  show (put n).toArray.size ≤ 10
  rw [List.size_toArray]; exact put_ten h
theorem putT_size {s : ByteArray} (h : s.size ≤ 1048576) : (putTextOut s).size ≤ 1048586 := by
  have h1 := putB_size (n := s.size) (by omega)
  show (putB s.size ++ s).size ≤ _
  rw [ByteArray.size_append]; omega
noncomputable def dtB (F : Nat → PcI) (n : Nat) : Nat → ByteArray
  | 0 => putB n
  | i + 1 => open Classical in if (F i).d = ⟨#[]⟩ then ((dtB F n i ++ putTextOut ⟨#[]⟩) ++ putB (F i).f.toNat) ++ putB (F i).l.toNat else dtB F n i ++ putTextOut (F i).d
theorem dtB_no {F : Nat → PcI} {n i : Nat} (h : (F i).d = ⟨#[]⟩) : dtB F n (i + 1) = ((dtB F n i ++ putTextOut ⟨#[]⟩) ++ putB (F i).f.toNat) ++ putB (F i).l.toNat := by
  show (if _ then _ else _) = _
  rw [if_pos h]
theorem dtB_yes {F : Nat → PcI} {n i : Nat} (h : (F i).d ≠ ⟨#[]⟩) : dtB F n (i + 1) = dtB F n i ++ putTextOut (F i).d := by
  show (if _ then _ else _) = _
  rw [if_neg h]
theorem dtB_size {F : Nat → PcI} {n i : Nat} (hn : n ≤ 500) (hd : ∀ j, j < i → (F j).d.size ≤ 1048576) (hp : ∀ j, j < i → pcP (F j) 4000) : (dtB F n i).size ≤ 10 + i * 1048606 := by
  induction i with
  | zero => have := putB_size (n := n) (by omega); show (putB n).size ≤ _; omega
  | succ i ih =>
    have h1 := ih (fun j hj => hd j (by omega)) (fun j hj => hp j (by omega))
    by_cases h : (F i).d = ⟨#[]⟩
    · rw [dtB_no h, ByteArray.size_append, ByteArray.size_append, ByteArray.size_append]
      have h2 := putT_size (s := ⟨#[]⟩) (by show 0 ≤ _; omega)
      rcases hp i (by omega) with ⟨_, c1, c2, c3, c4⟩ | ⟨c, _⟩
      · have h3 := putB_size (n := (F i).f.toNat) (by omega)
        have h4 := putB_size (n := (F i).l.toNat) (by omega)
        omega
      · exact absurd h c
    · rw [dtB_yes h, ByteArray.size_append]
      have h2 := putT_size (hd i (by omega))
      omega
noncomputable def dtV (F : Nat → PcI) (n : Nat) : ByteArray := if pcB F n 4000 then dtB F n n else ⟨#[]⟩
theorem dtV_yes {F : Nat → PcI} {n : Nat} (h : pcR F n 4000) : dtV F n = dtB F n n := by unfold dtV; rw [pcB_yes h]; rfl
theorem dtV_no {F : Nat → PcI} {n : Nat} (h : ¬ pcR F n 4000) : dtV F n = ⟨#[]⟩ := by unfold dtV; rw [pcB_no h]; rfl
end Go.Proofs.Ytpeddaljgmkomaa
