/-
  Several texts of this seat as one: NumBack, UpkC, UpkA.
-/
import Derived.Test.YtbkjcngehhdchaaPk25
import Derived.Test.YtbkjcngehhdchaaPk24

/-!   A number is read back from its bytes; what is read has just its bytes: on texts of bytes, plain mathematics. -/
namespace Go.Proofs.Ytbkjcngehhdchaa
open Go.RowKit

theorem put_mono : ∀ (n m : Nat), m ≤ n → (put m).length ≤ (put n).length := by
  intro n
  induction n using Nat.strongRecOn with
  | ind n ih =>
    intro m hm
    by_cases h : n < 128
    · rw [put_low h, put_low (by omega)]; simp
    · by_cases h2 : m < 128
      · rw [put_low h2]; have := put_pos n; simpa using this
      · rw [put_high (n := n) (by omega), put_high (n := m) (by omega)]
        have := ih (n / 128) (by omega) (m / 128) (by omega)
        simp only [List.length_cons]; omega
theorem num_put (n : Nat) (hn : n < 18446744073709551616) (r : ByteArray) : num ((⟨(put n).toArray⟩ : ByteArray) ++ r) = some ((n : Int), (put n).length) := by
  have h := rd_put n 0 0 r.data.toList (by omega) (by decide) (by omega) (Or.inl rfl)
  have e : ((⟨(put n).toArray⟩ : ByteArray) ++ r).data.toList = put n ++ r.data.toList := by simp [ByteArray.data_append]
  unfold num
  rw [e]
  simpa using h
theorem ext_tail2 (l : List UInt8) (r : ByteArray) : ((⟨l.toArray⟩ : ByteArray) ++ r).extract l.length ((⟨l.toArray⟩ : ByteArray) ++ r).size = r := by
  apply ByteArray.ext
  apply Array.ext'
  rw [Lib.extract_data, Lib.size_eq]
  have e : ((⟨l.toArray⟩ : ByteArray) ++ r).data.toList = l ++ r.data.toList := by simp [ByteArray.data_append]
  rw [e]
  simp
  exact List.take_of_length_le (Nat.le_of_eq (Lib.size_eq r).symm)
theorem take_put (n : Nat) (hn : n < 18446744073709551616) (r : ByteArray) : takeOut ((⟨(put n).toArray⟩ : ByteArray) ++ r) = .tuple #[.int .u64 (n : Int), .string r, .bool true] := by
  rw [takeOut_some (num_put n hn r), ext_tail2]
theorem num_back {s : ByteArray} {X : Int} {u : Nat} (h : num s = some (X, u)) :
    ∃ m : Nat, X = (m : Int) ∧ m < 18446744073709551616 ∧ (⟨(put m).toArray⟩ : ByteArray) ++ s.extract u s.size = s := by
  obtain ⟨m, h1, h2, _, _, h5⟩ := put_rd s.data.toList 0 0 X u (by decide) h
  refine ⟨m, by simpa using h1, by omega, ?_⟩
  rw [h2]
  apply ByteArray.ext
  apply Array.ext'
  have hb := num_bd h
  have hs : s.data.size = s.size := rfl
  simp [ByteArray.data_extract, ByteArray.data_append]
  have e : (s.data.toList.drop u).take (s.size - u) = s.data.toList.drop u := List.take_of_length_le (by rw [List.length_drop, ← Lib.size_eq]; exact Nat.le_refl _)
  rw [e, List.take_append_drop]
end Go.Proofs.Ytbkjcngehhdchaa

/-!   What was packed comes back: the code's Unpack. -/
namespace Go.Proofs.Ytbkjcngehhdchaa
open Go.RowKit
set_option linter.unusedVariables false
set_option linter.unusedSimpArgs false



set_option maxRecDepth 100000 in
set_option maxHeartbeats 1000000 in
theorem unpack_pack (s : ByteArray) (w : World) (hs : s.size ≤ 4000) :
    Calls Try.prog 44 #[.string (pckB s)] w fun e w' => e = .returned (.tuple #[.string s, .bool true]) ∧ Below w.heap.size w w' := by
  have h1 := pckR_size hs
  have h2 := putB_size (n := s.size) (by omega)
  have hps : (pckB s).size ≤ 72015 := by unfold pckB; rw [ByteArray.size_append]; omega
  obtain ⟨u, hu⟩ : ∃ u, u = (put s.size).length := ⟨_, rfl⟩
  have hu1 : 1 ≤ u := by rw [hu]; exact put_pos _
  have hu2 : u ≤ (pckB s).size := by
    unfold pckB; rw [ByteArray.size_append, hu]
    have : (⟨(put s.size).toArray⟩ : ByteArray).size = (put s.size).length := by show (put s.size).toArray.size = _; simp
    omega
  have HRN : Hid (∀ w, Calls Try.prog 65 #[.string (pckB s)] w fun e w' => e = .returned (.tuple #[.int .u64 (s.size : Int), .int .i64 (u : Int)]) ∧ w' = w) := fun w => by
    have h := read_any (pckB s) w (by unfold maxLen; omega)
    rw [numOut_some (show num (pckB s) = some ((s.size : Int), (put s.size).length) from num_put s.size (by omega) (pckR s)), ← hu] at h
    exact h
  have hext : (pckB s).extract u (pckB s).size = pckR s := by rw [hu]; exact ext_tail2 _ _
  have HMD : Hid (∀ w, Calls Try.prog 66 #[.string (pckR s), .int .i64 (s.size : Int)] w fun e w' => e = .returned (.tuple #[.string s, .bool true]) ∧ Below w.heap.size w w') := fun w => by
    have h := madeBy_any (pckR s) s.size w hs (by omega)
    rw [made_pack hs] at h
    have e : unAns (some (bytesL s s.size)) = .tuple #[.string s, .bool true] := by show Value.tuple #[.string (strL (bytesL s s.size)), .bool true] = _; rw [strL_bytes]
    rw [e] at h
    exact h
  have HPK : Hid (∀ w, Calls Try.prog 35 #[.string s] w fun e w' => e = .returned (.tuple #[.string (pckB s), .bool true]) ∧ Below w.heap.size w w') := fun w => pack_yes s w hs
  have hw : IntKind.i64.wrap (s.size : Int) = (s.size : Int) := by rw [IntKind.wrap_i64]; omega
  have hub : ((u : Int) == 0) = false := by simp; omega
  have hdb : decide ((4000 : Int) < (s.size : Int)) = false := by simp; omega
  have huI : (u : Int) ≤ ((pckB s).size : Int) := by omega
  generalize pckR s = R at *
  generalize pckB s = P at *
  clear hs hu
  go_enter Try.func44, Try.ntmps44
  go_wp2_with fail
  refine (HRN.out _).mono ?_
  rintro e w1 ⟨rfl, hw1⟩
  subst w1
  go_wp2_with fail
  refine (HMD.out _).mono ?_
  rintro e w2 ⟨rfl, hb2⟩
  go_wp2_with fail
  refine (HPK.out _).mono ?_
  rintro e w3 ⟨rfl, hb3⟩
  go_wp2_with fail
  go_ret2
  exact ⟨rfl, bl_trans3 hb2 hb3 hb2.size⟩
end Go.Proofs.Ytbkjcngehhdchaa

/-!   The code's Unpack at every text. -/
namespace Go.Proofs.Ytbkjcngehhdchaa
open Go.RowKit
set_option linter.unusedVariables false
set_option linter.unusedSimpArgs false
noncomputable def unp (S : ByteArray) : Option ByteArray := open Classical in match num S with
  | none => none
  | some (X, u) => if 4000 < X then none else match made (S.extract u S.size) X.toNat with
    | none => none
    | some o => if o.length ≤ 4000 ∧ pckB (strL o) = S then some (strL o) else none
def upAns : Option ByteArray → Value
  | some d => .tuple #[.string d, .bool true]
  | none => .tuple #[.string ⟨#[]⟩, .bool false]
theorem unp_pack {d : ByteArray} (hd : d.size ≤ 4000) : unp (pckB d) = some d := by
  unfold unp
  have h : num (pckB d) = some ((d.size : Int), (put d.size).length) := num_put d.size (by omega) (pckR d)
  have hext : (pckB d).extract (put d.size).length (pckB d).size = pckR d := ext_tail2 _ _
  rw [h]
  simp only []
  rw [if_neg (by omega), hext, Int.toNat_natCast, made_pack hd]
  simp only []
  rw [strL_bytes, bytesL_len, if_pos ⟨hd, rfl⟩]
theorem unp_some {S d : ByteArray} (h : unp S = some d) : d.size ≤ 4000 ∧ pckB d = S := by
  unfold unp at h
  split at h
  · cases h
  · split at h
    · cases h
    · split at h
      · cases h
      · split at h
        · rename_i hc
          cases h
          exact ⟨by rw [strL_size]; exact hc.1, hc.2⟩
        · cases h
set_option maxRecDepth 100000 in
set_option maxHeartbeats 1000000 in
theorem unpack_any (S : ByteArray) (w : World) (hs : S.size ≤ 1048576) :
    Calls Try.prog 44 #[.string S] w fun e w' => e = .returned (upAns (unp S)) ∧ Below w.heap.size w w' := by
  have HRN : Hid (∀ w, Calls Try.prog 65 #[.string S] w fun e w' => e = .returned (numOut S) ∧ w' = w) := fun w => read_any S w (by unfold maxLen; omega)
  cases hn : num S with
  | none =>
    have hR : unp S = none := by unfold unp; rw [hn]
    rw [hR]
    rw [numOut_none hn] at HRN
    go_enter Try.func44, Try.ntmps44
    go_wp2_with fail
    refine (HRN.out _).mono ?_
    rintro e w1 ⟨rfl, hw1⟩
    subst w1
    go_wp2_with fail
    go_ret2
    exact ⟨rfl, Below.refl _ _⟩
  | some p =>
    obtain ⟨X, u⟩ := p
    rw [numOut_some hn] at HRN
    have hbd := num_bd hn
    obtain ⟨m, hX, hm, hS⟩ := num_back hn
    subst hX
    obtain ⟨hu1, hu2, _⟩ := hbd
    have huI : (u : Int) ≤ (S.size : Int) := by omega
    have hub : ((u : Int) == 0) = false := by simp; omega
    by_cases hm4 : 4000 < m
    · have hR : unp S = none := by unfold unp; rw [hn]; simp only []; rw [if_pos (by omega)]
      rw [hR]
      have hdb : decide ((4000 : Int) < (m : Int)) = true := by simp; omega
      clear hS
      go_enter Try.func44, Try.ntmps44
      go_wp2_with fail
      refine (HRN.out _).mono ?_
      rintro e w1 ⟨rfl, hw1⟩
      subst w1
      go_wp2_with fail
      go_ret2
      exact ⟨rfl, Below.refl _ _⟩
    · have hdb : decide ((4000 : Int) < (m : Int)) = false := by simp; omega
      have hw : IntKind.i64.wrap (m : Int) = (m : Int) := by rw [IntKind.wrap_i64]; omega
      have hR : unp S = open Classical in match made (S.extract u S.size) m with
        | none => none
        | some o => if o.length ≤ 4000 ∧ pckB (strL o) = S then some (strL o) else none := by
          conv => lhs; unfold unp
          rw [hn]; simp only []; rw [if_neg (by omega), Int.toNat_natCast]
      have HMD : Hid (∀ w, Calls Try.prog 66 #[.string (S.extract u S.size), .int .i64 (m : Int)] w fun e w' => e = .returned (unAns (made (S.extract u S.size) m)) ∧ Below w.heap.size w w') := fun w => madeBy_any _ m w (by omega) (by rw [ByteArray.size_extract]; omega)
      generalize hext : S.extract u S.size = R at *
      clear hS hn
      clear hm
      obtain ⟨q, hq⟩ : ∃ q, q = made R m := ⟨_, rfl⟩
      rw [← hq] at hR HMD
      clear hq
      cases q with
      | none =>
        simp only [] at hR
        rw [hR]
        clear hR
        have HMD2 : Hid (∀ w, Calls Try.prog 66 #[.string R, .int .i64 (m : Int)] w fun e w' => e = .returned (.tuple #[.string ⟨#[]⟩, .bool false]) ∧ Below w.heap.size w w') := HMD
        clear HMD
        go_enter Try.func44, Try.ntmps44
        go_wp2_with fail
        refine (HRN.out _).mono ?_
        rintro e w1 ⟨rfl, hw1⟩
        subst w1
        go_wp2_with fail
        refine (HMD2.out _).mono ?_
        rintro e w2 ⟨rfl, hb2⟩
        go_wp2_with fail
        go_ret2
        exact ⟨rfl, hb2⟩
      | some o =>
        simp only [] at hR
        have HMD2 : Hid (∀ w, Calls Try.prog 66 #[.string R, .int .i64 (m : Int)] w fun e w' => e = .returned (.tuple #[.string (strL o), .bool true]) ∧ Below w.heap.size w w') := HMD
        clear HMD
        have hos : (strL o).size = o.length := strL_size o
        generalize strL o = d at *
        by_cases ho : o.length ≤ 4000
        · have HPK : Hid (∀ w, Calls Try.prog 35 #[.string d] w fun e w' => e = .returned (.tuple #[.string (pckB d), .bool true]) ∧ Below w.heap.size w w') := fun w => pack_yes d w (by omega)
          by_cases he : pckB d = S
          · rw [if_pos ⟨ho, he⟩] at hR
            rw [hR]
            rw [he] at HPK
            clear he hR
            go_enter Try.func44, Try.ntmps44
            go_wp2_with fail
            refine (HRN.out _).mono ?_
            rintro e w1 ⟨rfl, hw1⟩
            subst w1
            go_wp2_with fail
            refine (HMD2.out _).mono ?_
            rintro e w2 ⟨rfl, hb2⟩
            go_wp2_with fail
            refine (HPK.out _).mono ?_
            rintro e w3 ⟨rfl, hb3⟩
            go_wp2_with fail
            go_ret2
            exact ⟨rfl, bl_trans3 hb2 hb3 hb2.size⟩
          · rw [if_neg (fun c => he c.2)] at hR
            rw [hR]
            generalize pckB d = Z at *
            have hne : (Z.toList == S.toList) = false := by
              rw [beq_eq_false_iff_ne]
              intro c
              rw [Lib.toList_data, Lib.toList_data] at c
              exact he (ByteArray.ext (Array.ext' c))
            clear hR
            go_enter Try.func44, Try.ntmps44
            go_wp2_with fail
            refine (HRN.out _).mono ?_
            rintro e w1 ⟨rfl, hw1⟩
            subst w1
            go_wp2_with fail
            refine (HMD2.out _).mono ?_
            rintro e w2 ⟨rfl, hb2⟩
            go_wp2_with fail
            refine (HPK.out _).mono ?_
            rintro e w3 ⟨rfl, hb3⟩
            go_wp2_with fail
            go_ret2
            exact ⟨rfl, bl_trans3 hb2 hb3 hb2.size⟩
        · have HPK : Hid (∀ w, Calls Try.prog 35 #[.string d] w fun e w' => e = .returned (.tuple #[.string ⟨#[]⟩, .bool false]) ∧ w' = w) := fun w => pack_no d w (by omega)
          rw [if_neg (fun c => ho c.1)] at hR
          rw [hR]
          clear hR
          go_enter Try.func44, Try.ntmps44
          go_wp2_with fail
          refine (HRN.out _).mono ?_
          rintro e w1 ⟨rfl, hw1⟩
          subst w1
          go_wp2_with fail
          refine (HMD2.out _).mono ?_
          rintro e w2 ⟨rfl, hb2⟩
          go_wp2_with fail
          refine (HPK.out _).mono ?_
          rintro e w3 ⟨rfl, hw3⟩
          subst w3
          go_wp2_with fail
          go_ret2
          exact ⟨rfl, hb2⟩
end Go.Proofs.Ytbkjcngehhdchaa
