/-
  Several texts of this seat as one: UpkA, TakeText, TakeTextc, Post, RdN.
-/
import Derived.Test.YtibciflmalfbjaaPkC
import Derived.Test.YtibciflmalfbjaaPkB
import Derived.OpenShut
import Derived.Deep.RegionWith
import Derived.Test.YtibciflmalfbjaaRows
import Derived.WalkKit
import Derived.ProofKit
import Derived.BigQuiet

/-!   The code's Unpack at every text. -/
namespace Go.Proofs.Ytibciflmalfbjaa
open Go.RowKit
set_option linter.unusedVariables false
set_option linter.unusedSimpArgs false
noncomputable def unp (S : ByteArray) : Option ByteArray := open Classical in match num S with
  | none => none
  | some (X, u) => if 4000 < X then none else match made (S.extract u S.size) X.toNat with
    | none => none
    | some o => if o.length ≤ 4000 ∧ pckB (strL o) = S then some (strL o) else none
def upAns : Option ByteArray → Value
  | some d => .tuple #[.string d, .bool true]
  | none => .tuple #[.string ⟨#[]⟩, .bool false]
theorem unp_pack {d : ByteArray} (hd : d.size ≤ 4000) : unp (pckB d) = some d := by
  unfold unp
  have h : num (pckB d) = some ((d.size : Int), (put d.size).length) := num_put d.size (by omega) (pckR d)
  have hext : (pckB d).extract (put d.size).length (pckB d).size = pckR d := ext_tail2 _ _
  rw [h]
  simp only []
  rw [if_neg (by omega), hext, Int.toNat_natCast, made_pack hd]
  simp only []
  rw [strL_bytes, bytesL_len, if_pos ⟨hd, rfl⟩]
theorem unp_some {S d : ByteArray} (h : unp S = some d) : d.size ≤ 4000 ∧ pckB d = S := by
  unfold unp at h
  split at h
  · cases h
  · split at h
    · cases h
    · split at h
      · cases h
      · split at h
        · rename_i hc
          cases h
          exact ⟨by rw [strL_size]; exact hc.1, hc.2⟩
        · cases h
set_option maxRecDepth 100000 in
set_option maxHeartbeats 1000000 in
theorem unpack_any (S : ByteArray) (w : World) (hs : S.size ≤ 1048576) :
    Calls Try.prog 8 #[.string S] w fun e w' => e = .returned (upAns (unp S)) ∧ Below w.heap.size w w' := by
  have HRN : Hid (∀ w, Calls Try.prog 26 #[.string S] w fun e w' => e = .returned (numOut S) ∧ w' = w) := fun w => read_any S w (by unfold maxLen; omega)
  cases hn : num S with
  | none =>
    have hR : unp S = none := by unfold unp; rw [hn]
    rw [hR]
    rw [numOut_none hn] at HRN
    go_enter Try.func8, Try.ntmps8
    go_wp2_with fail
    refine (HRN.out _).mono ?_
    rintro e w1 ⟨rfl, hw1⟩
    subst w1
    go_wp2_with fail
    go_ret2
    exact ⟨rfl, Below.refl _ _⟩
  | some p =>
    obtain ⟨X, u⟩ := p
    rw [numOut_some hn] at HRN
    have hbd := num_bd hn
    obtain ⟨m, hX, hm, hS⟩ := num_back hn
    subst hX
    obtain ⟨hu1, hu2, _⟩ := hbd
    have huI : (u : Int) ≤ (S.size : Int) := by omega
    have hub : ((u : Int) == 0) = false := by simp; omega
    by_cases hm4 : 4000 < m
    · have hR : unp S = none := by unfold unp; rw [hn]; simp only []; rw [if_pos (by omega)]
      rw [hR]
      have hdb : decide ((4000 : Int) < (m : Int)) = true := by simp; omega
      clear hS
      go_enter Try.func8, Try.ntmps8
      go_wp2_with fail
      refine (HRN.out _).mono ?_
      rintro e w1 ⟨rfl, hw1⟩
      subst w1
      go_wp2_with fail
      go_ret2
      exact ⟨rfl, Below.refl _ _⟩
    · have hdb : decide ((4000 : Int) < (m : Int)) = false := by simp; omega
      have hw : IntKind.i64.wrap (m : Int) = (m : Int) := by rw [IntKind.wrap_i64]; omega
      have hR : unp S = open Classical in match made (S.extract u S.size) m with
        | none => none
        | some o => if o.length ≤ 4000 ∧ pckB (strL o) = S then some (strL o) else none := by
          conv => lhs; unfold unp
          rw [hn]; simp only []; rw [if_neg (by omega), Int.toNat_natCast]
      have HMD : Hid (∀ w, Calls Try.prog 27 #[.string (S.extract u S.size), .int .i64 (m : Int)] w fun e w' => e = .returned (unAns (made (S.extract u S.size) m)) ∧ Below w.heap.size w w') := fun w => madeBy_any _ m w (by omega) (by rw [ByteArray.size_extract]; omega)
      generalize hext : S.extract u S.size = R at *
      clear hS hn
      clear hm
      obtain ⟨q, hq⟩ : ∃ q, q = made R m := ⟨_, rfl⟩
      rw [← hq] at hR HMD
      clear hq
      cases q with
      | none =>
        simp only [] at hR
        rw [hR]
        clear hR
        have HMD2 : Hid (∀ w, Calls Try.prog 27 #[.string R, .int .i64 (m : Int)] w fun e w' => e = .returned (.tuple #[.string ⟨#[]⟩, .bool false]) ∧ Below w.heap.size w w') := HMD
        clear HMD
        go_enter Try.func8, Try.ntmps8
        go_wp2_with fail
        refine (HRN.out _).mono ?_
        rintro e w1 ⟨rfl, hw1⟩
        subst w1
        go_wp2_with fail
        refine (HMD2.out _).mono ?_
        rintro e w2 ⟨rfl, hb2⟩
        go_wp2_with fail
        go_ret2
        exact ⟨rfl, hb2⟩
      | some o =>
        simp only [] at hR
        have HMD2 : Hid (∀ w, Calls Try.prog 27 #[.string R, .int .i64 (m : Int)] w fun e w' => e = .returned (.tuple #[.string (strL o), .bool true]) ∧ Below w.heap.size w w') := HMD
        clear HMD
        have hos : (strL o).size = o.length := strL_size o
        generalize strL o = d at *
        by_cases ho : o.length ≤ 4000
        · have HPK : Hid (∀ w, Calls Try.prog 11 #[.string d] w fun e w' => e = .returned (.tuple #[.string (pckB d), .bool true]) ∧ Below w.heap.size w w') := fun w => pack_yes d w (by omega)
          by_cases he : pckB d = S
          · rw [if_pos ⟨ho, he⟩] at hR
            rw [hR]
            rw [he] at HPK
            clear he hR
            go_enter Try.func8, Try.ntmps8
            go_wp2_with fail
            refine (HRN.out _).mono ?_
            rintro e w1 ⟨rfl, hw1⟩
            subst w1
            go_wp2_with fail
            refine (HMD2.out _).mono ?_
            rintro e w2 ⟨rfl, hb2⟩
            go_wp2_with fail
            refine (HPK.out _).mono ?_
            rintro e w3 ⟨rfl, hb3⟩
            go_wp2_with fail
            go_ret2
            exact ⟨rfl, bl_trans3 hb2 hb3 hb2.size⟩
          · rw [if_neg (fun c => he c.2)] at hR
            rw [hR]
            generalize pckB d = Z at *
            have hne : (Z.toList == S.toList) = false := by
              rw [beq_eq_false_iff_ne]
              intro c
              rw [Lib.toList_data, Lib.toList_data] at c
              exact he (ByteArray.ext (Array.ext' c))
            clear hR
            go_enter Try.func8, Try.ntmps8
            go_wp2_with fail
            refine (HRN.out _).mono ?_
            rintro e w1 ⟨rfl, hw1⟩
            subst w1
            go_wp2_with fail
            refine (HMD2.out _).mono ?_
            rintro e w2 ⟨rfl, hb2⟩
            go_wp2_with fail
            refine (HPK.out _).mono ?_
            rintro e w3 ⟨rfl, hb3⟩
            go_wp2_with fail
            go_ret2
            exact ⟨rfl, bl_trans3 hb2 hb3 hb2.size⟩
        · have HPK : Hid (∀ w, Calls Try.prog 11 #[.string d] w fun e w' => e = .returned (.tuple #[.string ⟨#[]⟩, .bool false]) ∧ w' = w) := fun w => pack_no d w (by omega)
          rw [if_neg (fun c => ho c.1)] at hR
          rw [hR]
          clear hR
          go_enter Try.func8, Try.ntmps8
          go_wp2_with fail
          refine (HRN.out _).mono ?_
          rintro e w1 ⟨rfl, hw1⟩
          subst w1
          go_wp2_with fail
          refine (HMD2.out _).mono ?_
          rintro e w2 ⟨rfl, hb2⟩
          go_wp2_with fail
          refine (HPK.out _).mono ?_
          rintro e w3 ⟨rfl, hw3⟩
          subst w3
          go_wp2_with fail
          go_ret2
          exact ⟨rfl, hb2⟩
end Go.Proofs.Ytibciflmalfbjaa

/-!   What TakeText answers, the specification's. -/
namespace Go.Proofs.Ytibciflmalfbjaa
open Go.RowKit

theorem grp_bd (X : Int) (k : Nat) (c : UInt8) : 0 ≤ grp X k c := (bounds_u64 (wf_bits .or .u64 X _)).1
theorem rd_nn : ∀ (l : List UInt8) (X : Int) (k : Nat) (Y : Int) (u : Nat), rd X k l = some (Y, u) → 0 ≤ Y
  | [], X, k, Y, u, h => by simp [rd] at h
  | c :: cs, X, k, Y, u, h => by
    rw [rd] at h
    by_cases h10 : 10 ≤ k
    · rw [if_pos h10] at h; cases h
    rw [if_neg h10] at h
    by_cases h9 : k = 9 ∧ 1 < c.toNat
    · rw [if_pos h9] at h; cases h
    rw [if_neg h9] at h
    by_cases h1 : c.toNat < 128
    · rw [if_pos h1] at h
      by_cases h0 : 0 < k ∧ c.toNat = 0
      · rw [if_pos h0] at h; cases h
      · rw [if_neg h0] at h
        simp only [Option.some.injEq, Prod.mk.injEq] at h
        rw [← h.1]; exact grp_bd _ _ _
    · rw [if_neg h1] at h
      exact rd_nn cs _ _ _ _ h

/-- the text's length and where it begins, where there is a text -/
def txt (s : ByteArray) : Option (Nat × Nat) := match num s with
  | none => none
  | some (X, u) => if X ≤ 100000 ∧ X ≤ ((s.size - u : Nat) : Int) then some (X.toNat, u) else none
def textOut (s : ByteArray) : Value := match txt s with
  | none => .tuple #[.string ⟨#[]⟩, .string ⟨#[]⟩, .bool false]
  | some (n, u) => .tuple #[.string (s.extract u (u + n)), .string (s.extract (u + n) s.size), .bool true]
theorem textOut_none {s : ByteArray} (h : txt s = none) : textOut s = .tuple #[.string ⟨#[]⟩, .string ⟨#[]⟩, .bool false] := by unfold textOut; rw [h]
theorem textOut_some {s : ByteArray} {n u : Nat} (h : txt s = some (n, u)) : textOut s = .tuple #[.string (s.extract u (u + n)), .string (s.extract (u + n) s.size), .bool true] := by unfold textOut; rw [h]

theorem ext_mid (s : ByteArray) (u n : Nat) (h : u + n ≤ s.size) : (s.extract u s.size).extract 0 n = s.extract u (u + n) := by
  apply ByteArray.ext
  simp [ByteArray.data_extract, Array.extract_extract]
  congr 1
  have : s.data.size = s.size := rfl
  omega
theorem ext_tail (s : ByteArray) (u n : Nat) : (s.extract u s.size).extract n (s.size - u) = s.extract (u + n) s.size := by
  apply ByteArray.ext
  simp [ByteArray.data_extract, Array.extract_extract]
  congr 1
  have : s.data.size = s.size := rfl
  omega

end Go.Proofs.Ytibciflmalfbjaa

/-!   What TakeText answers, the code's. -/
namespace Go.Proofs.Ytibciflmalfbjaa
open Go.RowKit

theorem clone_in (w : World) (s : ByteArray) (W : World) (hlim : s.size ≤ 281474976710656) (hB : Below w.heap.size w W) :
    Calls Try.prog 66 #[.string s] W fun e w' => e = .returned (.string s) ∧ Below w.heap.size w w' :=
  (clone_any s W hlim).mono fun _ _ ⟨h1, h2⟩ => ⟨h1, hB.trans (h2.mono hB.size)⟩
theorem ext_le {s : ByteArray} {B : Nat} (h : s.size ≤ B) (a b : Nat) : (s.extract a b).size ≤ B := by
  simp; omega

end Go.Proofs.Ytibciflmalfbjaa

/-!   Of what every law's row asks behind a call: nothing that was there has turned. For calls that freeze bytes of their own. -/
namespace Go.Proofs.Ytibciflmalfbjaa
open Go.RowKit Go.ChangeShapes
variable {P : Program} {H : Type} {enc : TypeId × Value → H}

theorem post_of_below {f : Func} {s : ChangeSpec} {apart fresh handsOn again : Bool} {W W' : World} {args : Array Value} {v : Value} {ds gs : List (DataW H)} {before pa pv : List MemPlace}
    (hW : DataW.Whole enc P f.params.toList s.vars apart W args.toList ds gs before)
    (hres : ∀ (b : Nat) (sp : Nat → Bool) (hd : Bool), DataW.TrodAll enc P W' b sp hd f.resultTypes.toList (v.resultList f.resultTypes.size) (s.fn H (ds ++ gs)).results [])
    (hargs : ∀ sp : Nat → Bool, (∀ p ∈ before, sp p.block = true) → DataW.TrodAll enc P W' 0 sp true f.params.toList args.toList (s.fn H (ds ++ gs)).args pa)
    (hvars : ∀ sp : Nat → Bool, (∀ p ∈ before, sp p.block = true) → DataW.TrodVars enc P W' sp s.vars (s.fn H (ds ++ gs)).vars pv)
    (hps : before = pa ++ pv) (hB : Below W.heap.size W W')
    (hok : ∀ (j : Nat) (t : TypeId) (r : Value), f.resultTypes[j]? = some t → (v.resultList f.resultTypes.size)[j]? = some r → Value.okWide P W' .any 0 t r) :
    s.post enc P f apart fresh handsOn again W args v W' := by
  have hold : ∀ p ∈ before, (fun b => decide (b < W.heap.size)) p.block = true := fun p hp => by simpa using hW.lt p hp
  have hlt := hW.lt
  refine ⟨ds, gs, before, [], pa, pv, hW, hres _ _ _, hargs _ hold, hvars _ hold, World.keptBut_mono (fun p hp => ⟨hp, ?_⟩) (hB.frame (· ∈ before)), fun _ => ?_⟩
  · rw [hps, List.mem_append] at hp
    exact Or.inr hp
  · obtain ⟨_, _, _, _, _, hz, hn⟩ := hW
    refine ⟨hok, _, _, ([] ++ pa) ++ pv, ⟨[] ++ pa, pv, trodAll_append (hargs _ (fun _ _ => rfl)) (hres _ _ _), hvars _ (fun _ _ => rfl), rfl, ?_, ?_⟩, ?_⟩
    · intro b off hp
      have hp' : MemPlace.cell b off ∈ before := by rw [hps]; simpa using hp
      have h1 := hlt _ hp'
      rw [hB.frozen (p := ⟨b, off, none⟩) h1]
      exact hz b off hp'
    · intro ha
      have := hn ha
      rw [hps] at this
      simpa using this
    · intro p hp _
      rw [hps]
      simpa using hp
end Go.Proofs.Ytibciflmalfbjaa

/-!   The readers of numbers and data, without what is read of pieces. -/
namespace Go.Proofs.Ytibciflmalfbjaa
open Go.RowKit
set_option linter.unusedVariables false
set_option linter.unusedSimpArgs false
/-- a number that may stand in a text, and where it ends -/
def numI (s : ByteArray) : Option (Nat × ByteArray) := match num s with
  | none => none
  | some (X, u) => if X ≤ 1000000000000 then some (X.toNat, s.extract u s.size) else none
def numIV : Option (Nat × ByteArray) → Value
  | none => .tuple #[.int .i64 0, .string ⟨#[]⟩, .bool false]
  | some (n, r) => .tuple #[.int .i64 (n : Int), .string r, .bool true]
theorem numI_none1 {s : ByteArray} (h : num s = none) : numI s = none := by unfold numI; rw [h]
theorem numI_none2 {s : ByteArray} {X : Int} {u : Nat} (h : num s = some (X, u)) (hx : ¬ X ≤ 1000000000000) : numI s = none := by unfold numI; rw [h]; exact if_neg hx
theorem numI_some {s : ByteArray} {X : Int} {u : Nat} (h : num s = some (X, u)) (hx : X ≤ 1000000000000) : numI s = some (X.toNat, s.extract u s.size) := by unfold numI; rw [h]; exact if_pos hx
theorem num_nn {s : ByteArray} {X : Int} {u : Nat} (h : num s = some (X, u)) : 0 ≤ X := rd_nn _ _ _ _ _ h
theorem numI_bd {s : ByteArray} {n : Nat} {r : ByteArray} (h : numI s = some (n, r)) : n ≤ 1000000000000 ∧ r.size ≤ s.size := by
  unfold numI at h
  cases hn : num s with
  | none => rw [hn] at h; cases h
  | some p =>
    obtain ⟨X, u⟩ := p
    rw [hn] at h
    simp only at h
    split at h
    · simp only [Option.some.injEq, Prod.mk.injEq] at h
      have := num_nn hn
      refine ⟨by omega, ?_⟩
      rw [← h.2, ByteArray.size_extract]; omega
    · cases h
def datI (s : ByteArray) : Option (ByteArray × ByteArray) := match txt s with
  | none => none
  | some (n, u) => some (s.extract u (u + n), s.extract (u + n) s.size)
theorem datI_out (s : ByteArray) : textOut s = (match datI s with | none => .tuple #[.string ⟨#[]⟩, .string ⟨#[]⟩, .bool false] | some (d, r) => .tuple #[.string d, .string r, .bool true]) := by
  unfold textOut datI
  cases txt s with
  | none => rfl
  | some p => obtain ⟨n, u⟩ := p; rfl
theorem datI_bd {s d r : ByteArray} (h : datI s = some (d, r)) : d.size ≤ s.size ∧ r.size ≤ s.size := by
  unfold datI at h
  cases ht : txt s with
  | none => rw [ht] at h; cases h
  | some p =>
    obtain ⟨n, u⟩ := p
    rw [ht] at h
    simp only [Option.some.injEq, Prod.mk.injEq] at h
    rw [← h.1, ← h.2, ByteArray.size_extract, ByteArray.size_extract]; omega
set_option maxRecDepth 100000 in
set_option maxHeartbeats 1000000 in
theorem snumI_any (s : ByteArray) (w : World) (hs : s.size ≤ 1048576) :
    Calls Try.prog 21 #[.string s] w fun e w' => e = .returned (numIV (numI s)) ∧ Below w.heap.size w w' := by
  have HT : Hid (∀ w, Calls Try.prog 44 #[.string s] w fun e w' => e = .returned (takeOut s) ∧ Below w.heap.size w w') := fun w => stake_any s w (by unfold maxLen; omega)
  cases hn : num s with
  | none =>
    rw [numI_none1 hn]
    rw [takeOut_none hn] at HT
    clear hn
    go_enter Try.func21, Try.ntmps21
    go_wp2_with fail
    refine (HT.out _).mono ?_
    rintro e w1 ⟨rfl, hb1⟩
    go_wp2_with fail
    go_ret3
    exact ⟨rfl, hb1⟩
  | some p =>
    obtain ⟨X, u⟩ := p
    have h0 := num_nn hn
    rw [takeOut_some hn] at HT
    by_cases hx : X ≤ 1000000000000
    · rw [numI_some hn hx]
      obtain ⟨x, rfl⟩ : ∃ x : Nat, X = (x : Int) := ⟨X.toNat, by omega⟩
      rw [Int.toNat_natCast]
      have hxI : ¬ (1000000000000 : Int) < (x : Int) := by omega
      have hw : IntKind.i64.wrap (x : Int) = (x : Int) := by rw [IntKind.wrap_i64]; omega
      clear hn hx h0
      go_enter Try.func21, Try.ntmps21
      go_wp2_with fail
      refine (HT.out _).mono ?_
      rintro e w1 ⟨rfl, hb1⟩
      go_wp2_with fail
      go_ret3
      exact ⟨rfl, hb1⟩
    · rw [numI_none2 hn hx]
      have hxI : (1000000000000 : Int) < X := by omega
      clear hn hx h0
      go_enter Try.func21, Try.ntmps21
      go_wp2_with fail
      refine (HT.out _).mono ?_
      rintro e w1 ⟨rfl, hb1⟩
      go_wp2_with fail
      go_ret3
      exact ⟨rfl, hb1⟩
def datIV : Option (ByteArray × ByteArray) → Value
  | none => .tuple #[.string ⟨#[]⟩, .string ⟨#[]⟩, .bool false]
  | some (d, r) => .tuple #[.string d, .string r, .bool true]
theorem datI_numn {s : ByteArray} (h : numI s = none) : datI s = none := by
  unfold datI txt
  cases hn : num s with
  | none => rfl
  | some p =>
    obtain ⟨X, u⟩ := p
    have hx : ¬ X ≤ 1000000000000 := fun c => by rw [numI_some hn c] at h; cases h
    simp only
    rw [if_neg (fun c => hx (by have := c.1; omega))]
theorem datI_numb {s r : ByteArray} {n : Nat} (h : numI s = some (n, r)) (hb : ¬ (n ≤ 100000 ∧ n ≤ r.size)) : datI s = none := by
  unfold datI txt
  cases hn : num s with
  | none => rfl
  | some p =>
    obtain ⟨X, u⟩ := p
    have h0 := num_nn hn
    have hx : X ≤ 1000000000000 := by
      by_cases c : X ≤ 1000000000000
      · exact c
      · rw [numI_none2 hn c] at h; cases h
    rw [numI_some hn hx] at h
    simp only [Option.some.injEq, Prod.mk.injEq] at h
    obtain ⟨rfl, rfl⟩ := h
    simp only
    rw [if_neg (fun c => hb ⟨by have := c.1; omega, by rw [ByteArray.size_extract]; have := c.2; omega⟩)]
theorem datI_num {s r : ByteArray} {n : Nat} (h : numI s = some (n, r)) (h1 : n ≤ 100000) (h2 : n ≤ r.size) : datI s = some (r.extract 0 n, r.extract n r.size) := by
  unfold datI txt
  cases hn : num s with
  | none => rw [numI_none1 hn] at h; cases h
  | some p =>
    obtain ⟨X, u⟩ := p
    have h0 := num_nn hn
    have hu := num_bd hn
    have hx : X ≤ 1000000000000 := by
      by_cases c : X ≤ 1000000000000
      · exact c
      · rw [numI_none2 hn c] at h; cases h
    rw [numI_some hn hx] at h
    simp only [Option.some.injEq, Prod.mk.injEq] at h
    obtain ⟨rfl, rfl⟩ := h
    rw [ByteArray.size_extract] at h2
    simp only
    rw [if_pos ⟨by omega, by omega⟩]
    simp only
    rw [ext_mid _ _ _ (by omega)]
    have e : (s.extract u s.size).size = s.size - u := by rw [ByteArray.size_extract]; omega
    rw [e, ext_tail]
theorem results_cell_2 {P : Program} {fn : Func} {t u p : Tmp} {ty : TypeId} (h : fn.results = #[.cell p ty, .tmp t, .tmp u]) (tmps : Array Value) (w : World) (g : Nat) (t2 : TypeId) (cs : Array Value) (fr : Nat × Nat) (d : TypeDesc)
    (hp : tmps.getD p undef = .pointer (some ⟨g, 0, none⟩)) (hg : w.heap[g]? = some (.cells cs t2 fr))
    (hu : P.underlying ty = some d) (hd : (match d with | .struct _ | .array _ _ => true | _ => false) = true) (hi : (P.info? ty).map (·.size) = some cs.size) :
    (results fn tmps).run P w = .ok (.tuple #[.agg cs, tmps.getD t undef, tmps.getD u undef]) w := by
  have hp' : tmps[p]?.getD undef = .pointer (some ⟨g, 0, none⟩) := by simpa using hp
  simp [results, h, hp', asAddr, run_loadVar_row w g t2 ty cs fr d hg hu hd hi]
end Go.Proofs.Ytibciflmalfbjaa
