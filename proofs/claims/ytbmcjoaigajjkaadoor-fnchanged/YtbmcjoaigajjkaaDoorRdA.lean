/-
  Several texts of this seat as one: Num, Take, Read, TakeText, TakeTextc, Post, RdN.
-/
import Derived.WalkKit
import Derived.Lib.Strings
import Derived.Test.YtbmcjoaigajjkaaDoorClone
import Derived.WalkSpells
import Derived.OpenShut
import Derived.Deep.RegionWith
import Derived.Test.YtbmcjoaigajjkaaDoorRows
import Derived.ProofKit
import Derived.BigQuiet

/-!   The numbers in groups of seven bits, as plain mathematics: no program is named here. -/
namespace Go.Proofs.YtbmcjoaigajjkaaDoor
open Go.RowKit

def intOf : Value → Int | .int _ q => q | _ => 0

/-- one group more -/
def grp (X : Int) (k : Nat) (c : UInt8) : Int := bits .or .u64 X (IntKind.u64.wrap (((c.toNat : Int) % 128) * 2 ^ (7 * k)))

/-- what a text that is read from the place k on says, behind X -/
def rd (X : Int) (k : Nat) : List UInt8 → Option (Int × Nat)
  | [] => none
  | c :: cs => if 10 ≤ k then none else if k = 9 ∧ 1 < c.toNat then none else
    if c.toNat < 128 then (if 0 < k ∧ c.toNat = 0 then none else some (grp X k c, k + 1)) else rd (grp X k c) (k + 1) cs

theorem drop_step (s : ByteArray) (k : Nat) (h : k < s.size) : s.data.toList.drop k = s[k] :: s.data.toList.drop (k + 1) := by
  rw [List.drop_eq_getElem_cons (by simpa using h)]; rfl
theorem drop_end (s : ByteArray) (k : Nat) (h : s.size ≤ k) : s.data.toList.drop k = [] := by
  apply List.drop_eq_nil_of_le
  rw [← Lib.size_eq]; exact h
theorem mask127 {c : Int} (h₀ : 0 ≤ c) (h₁ : c ≤ 255) : bits .and .u8 c 127 = c % 128 := bits_mask .u8 8 (by decide) wraps_u8 7 (by decide) c h₀ (by omega)

theorem grp_nine (X : Int) (c : UInt8) (h : c.toNat ≤ 1) : grp X 9 c = bits .or .u64 X ((c.toNat : Int) % 128 * 9223372036854775808) := by
  unfold grp
  rw [IntWalk.u64_in]
  · rfl
  · constructor <;> omega
theorem grp_zero (X : Int) (k : Nat) (c : UInt8) (h : c.toNat = 0) : grp X k c = bits .or .u64 X (IntKind.u64.wrap 0) := by
  unfold grp; rw [h]; simp
/-- the number and the bytes that it takes up -/
def num (s : ByteArray) : Option (Int × Nat) := rd 0 0 s.data.toList

theorem num_none {s : ByteArray} {X : Int} {k : Nat} (h : num s = rd X k (s.data.toList.drop k)) (hk : k < s.size)
    (hn : 10 ≤ k ∨ (k = 9 ∧ 1 < s[k].toNat) ∨ (s[k].toNat < 128 ∧ 0 < k ∧ s[k].toNat = 0)) : num s = none := by
  rw [h, drop_step s k hk, rd]
  rcases hn with hn | hn | ⟨h1, h2⟩
  · rw [if_pos hn]
  · rw [if_pos hn]; split <;> rfl
  · rw [if_pos h1, if_pos h2]; split <;> (try split) <;> rfl
theorem num_some {s : ByteArray} {X : Int} {k : Nat} (h : num s = rd X k (s.data.toList.drop k)) (hk : k < s.size)
    (h10 : k < 10) (h9 : ¬ (k = 9 ∧ 1 < s[k].toNat)) (h1 : s[k].toNat < 128) (h0 : ¬ (0 < k ∧ s[k].toNat = 0)) : num s = some (grp X k s[k], k + 1) := by
  rw [h, drop_step s k hk, rd, if_neg (by omega), if_neg h9, if_pos h1, if_neg h0]
theorem num_end {s : ByteArray} {X : Int} {k : Nat} (h : num s = rd X k (s.data.toList.drop k)) (hk : s.size ≤ k) : num s = none := by
  rw [h, drop_end s k hk, rd]
theorem num_go {s : ByteArray} {X : Int} {k : Nat} (h : num s = rd X k (s.data.toList.drop k)) (hk : k < s.size)
    (h10 : k < 10) (h9 : ¬ (k = 9 ∧ 1 < s[k].toNat)) (h1 : ¬ s[k].toNat < 128) : num s = rd (grp X k s[k]) (k + 1) (s.data.toList.drop (k + 1)) := by
  rw [h, drop_step s k hk, rd, if_neg (by omega), if_neg h9, if_neg h1]
theorem num_ten {s : ByteArray} {X : Int} {k : Nat} (h : num s = rd X k (s.data.toList.drop k)) (hk : 10 ≤ k) : num s = none := by
  by_cases hl : k < s.size
  · exact num_none h hl (Or.inl hk)
  · exact num_end h (by omega)

theorem rd_bd : ∀ (l : List UInt8) (X : Int) (k : Nat) (Y : Int) (u : Nat), rd X k l = some (Y, u) → k + 1 ≤ u ∧ u ≤ k + l.length ∧ u ≤ 10
  | [], X, k, Y, u, h => by simp [rd] at h
  | c :: cs, X, k, Y, u, h => by
    rw [rd] at h
    by_cases h10 : 10 ≤ k
    · rw [if_pos h10] at h; cases h
    rw [if_neg h10] at h
    by_cases h9 : k = 9 ∧ 1 < c.toNat
    · rw [if_pos h9] at h; cases h
    rw [if_neg h9] at h
    by_cases h1 : c.toNat < 128
    · rw [if_pos h1] at h
      by_cases h0 : 0 < k ∧ c.toNat = 0
      · rw [if_pos h0] at h; cases h
      · rw [if_neg h0] at h
        simp only [Option.some.injEq, Prod.mk.injEq] at h
        simp only [List.length_cons]
        omega
    · rw [if_neg h1] at h
      have := rd_bd cs _ _ _ _ h
      simp only [List.length_cons]
      have : u ≤ 10 := this.2.2
      omega
theorem num_bd {s : ByteArray} {X : Int} {u : Nat} (h : num s = some (X, u)) : 1 ≤ u ∧ u ≤ s.size ∧ u ≤ 10 := by
  have := rd_bd _ _ _ _ _ h
  rw [← Lib.size_eq] at this
  omega

/-- what TakeNum tells -/
def takeOut (s : ByteArray) : Value := match num s with
  | none => .tuple #[.int .u64 0, .string ⟨#[]⟩, .bool false]
  | some (X, u) => .tuple #[.int .u64 X, .string (s.extract u s.size), .bool true]
theorem takeOut_none {s : ByteArray} (h : num s = none) : takeOut s = .tuple #[.int .u64 0, .string ⟨#[]⟩, .bool false] := by unfold takeOut; rw [h]
theorem takeOut_some {s : ByteArray} {X : Int} {u : Nat} (h : num s = some (X, u)) : takeOut s = .tuple #[.int .u64 X, .string (s.extract u s.size), .bool true] := by unfold takeOut; rw [h]

/-- a number's bytes -/
def put (n : Nat) : List UInt8 := if h : n < 128 then [UInt8.ofNat n] else UInt8.ofNat (n % 128 + 128) :: put (n / 128)
  termination_by n
  decreasing_by omega
theorem put_low {n : Nat} (h : n < 128) : put n = [UInt8.ofNat n] := by rw [put, dif_pos h]
theorem put_high {n : Nat} (h : 128 ≤ n) : put n = UInt8.ofNat (n % 128 + 128) :: put (n / 128) := by rw [put, dif_neg (by omega)]
theorem put_pos (n : Nat) : 1 ≤ (put n).length := by
  by_cases h : n < 128
  · rw [put_low h]; simp
  · rw [put_high (by omega)]; simp
theorem put_pos2 {n : Nat} (h : 128 ≤ n) : 2 ≤ (put n).length := by
  rw [put_high h]; have := put_pos (n / 128); simp only [List.length_cons]; omega
theorem put_len : ∀ (k n : Nat), n < 128 ^ (k + 1) → (put n).length ≤ k + 1
  | 0, n, h => by rw [put_low (by simpa using h)]; simp
  | k + 1, n, h => by
    by_cases hl : n < 128
    · rw [put_low hl]; simp
    · rw [put_high (by omega)]
      have := put_len k (n / 128) (by
        apply Nat.div_lt_of_lt_mul
        rw [Nat.pow_succ] at h
        rw [Nat.mul_comm]; exact h)
      simp only [List.length_cons]; omega
theorem put_ten {n : Nat} (h : n < 18446744073709551616) : (put n).length ≤ 10 := put_len 9 n (by omega)
theorem put_step {n0 m : Nat} {acc : List UInt8} (h : put n0 = acc ++ put m) (hm : 128 ≤ m) : put n0 = (acc ++ [UInt8.ofNat (m % 128 + 128)]) ++ put (m / 128) := by
  rw [h, put_high hm]; simp
theorem put_last {n0 m : Nat} {acc : List UInt8} (h : put n0 = acc ++ put m) (hm : m < 128) : put n0 = acc ++ [UInt8.ofNat m] := by
  rw [h, put_low hm]
theorem put_room {n0 m : Nat} {acc : List UInt8} (h : put n0 = acc ++ put m) (hn : n0 < 18446744073709551616) : acc.length ≤ 9 ∧ (128 ≤ m → acc.length ≤ 8) := by
  have h1 := put_ten hn
  rw [h, List.length_append] at h1
  have h2 := put_pos m
  exact ⟨by omega, fun hm => by have := put_pos2 hm; omega⟩
end Go.Proofs.YtbmcjoaigajjkaaDoor

/-!   What TakeNum answers, the code's and the specification's, in plain words. -/
namespace Go.Proofs.YtbmcjoaigajjkaaDoor
open Go.RowKit

end Go.Proofs.YtbmcjoaigajjkaaDoor

/-!   What readNum and the code's TakeNum answer, in plain words. -/
namespace Go.Proofs.YtbmcjoaigajjkaaDoor
open Go.RowKit

/-- what readNum tells -/
def numOut (s : ByteArray) : Value := match num s with
  | none => .tuple #[.int .u64 0, .int .i64 0]
  | some (X, u) => .tuple #[.int .u64 X, .int .i64 u]
theorem numOut_none {s : ByteArray} (h : num s = none) : numOut s = .tuple #[.int .u64 0, .int .i64 0] := by unfold numOut; rw [h]
theorem numOut_some {s : ByteArray} {X : Int} {u : Nat} (h : num s = some (X, u)) : numOut s = .tuple #[.int .u64 X, .int .i64 u] := by unfold numOut; rw [h]

end Go.Proofs.YtbmcjoaigajjkaaDoor

/-!   What TakeText answers, the specification's. -/
namespace Go.Proofs.YtbmcjoaigajjkaaDoor
open Go.RowKit

theorem grp_bd (X : Int) (k : Nat) (c : UInt8) : 0 ≤ grp X k c := (bounds_u64 (wf_bits .or .u64 X _)).1
theorem rd_nn : ∀ (l : List UInt8) (X : Int) (k : Nat) (Y : Int) (u : Nat), rd X k l = some (Y, u) → 0 ≤ Y
  | [], X, k, Y, u, h => by simp [rd] at h
  | c :: cs, X, k, Y, u, h => by
    rw [rd] at h
    by_cases h10 : 10 ≤ k
    · rw [if_pos h10] at h; cases h
    rw [if_neg h10] at h
    by_cases h9 : k = 9 ∧ 1 < c.toNat
    · rw [if_pos h9] at h; cases h
    rw [if_neg h9] at h
    by_cases h1 : c.toNat < 128
    · rw [if_pos h1] at h
      by_cases h0 : 0 < k ∧ c.toNat = 0
      · rw [if_pos h0] at h; cases h
      · rw [if_neg h0] at h
        simp only [Option.some.injEq, Prod.mk.injEq] at h
        rw [← h.1]; exact grp_bd _ _ _
    · rw [if_neg h1] at h
      exact rd_nn cs _ _ _ _ h

/-- the text's length and where it begins, where there is a text -/
def txt (s : ByteArray) : Option (Nat × Nat) := match num s with
  | none => none
  | some (X, u) => if X ≤ 100000 ∧ X ≤ ((s.size - u : Nat) : Int) then some (X.toNat, u) else none
def textOut (s : ByteArray) : Value := match txt s with
  | none => .tuple #[.string ⟨#[]⟩, .string ⟨#[]⟩, .bool false]
  | some (n, u) => .tuple #[.string (s.extract u (u + n)), .string (s.extract (u + n) s.size), .bool true]
theorem textOut_none {s : ByteArray} (h : txt s = none) : textOut s = .tuple #[.string ⟨#[]⟩, .string ⟨#[]⟩, .bool false] := by unfold textOut; rw [h]
theorem textOut_some {s : ByteArray} {n u : Nat} (h : txt s = some (n, u)) : textOut s = .tuple #[.string (s.extract u (u + n)), .string (s.extract (u + n) s.size), .bool true] := by unfold textOut; rw [h]

theorem ext_mid (s : ByteArray) (u n : Nat) (h : u + n ≤ s.size) : (s.extract u s.size).extract 0 n = s.extract u (u + n) := by
  apply ByteArray.ext
  simp [ByteArray.data_extract, Array.extract_extract]
  congr 1
  have : s.data.size = s.size := rfl
  omega
theorem ext_tail (s : ByteArray) (u n : Nat) : (s.extract u s.size).extract n (s.size - u) = s.extract (u + n) s.size := by
  apply ByteArray.ext
  simp [ByteArray.data_extract, Array.extract_extract]
  congr 1
  have : s.data.size = s.size := rfl
  omega

end Go.Proofs.YtbmcjoaigajjkaaDoor

/-!   What TakeText answers, the code's. -/
namespace Go.Proofs.YtbmcjoaigajjkaaDoor
open Go.RowKit

theorem clone_in (w : World) (s : ByteArray) (W : World) (hlim : s.size ≤ 281474976710656) (hB : Below w.heap.size w W) :
    Calls Tryd.prog 25 #[.string s] W fun e w' => e = .returned (.string s) ∧ Below w.heap.size w w' :=
  (clone_any s W hlim).mono fun _ _ ⟨h1, h2⟩ => ⟨h1, hB.trans (h2.mono hB.size)⟩
theorem ext_le {s : ByteArray} {B : Nat} (h : s.size ≤ B) (a b : Nat) : (s.extract a b).size ≤ B := by
  simp; omega

end Go.Proofs.YtbmcjoaigajjkaaDoor

/-!   Of what every law's row asks behind a call: nothing that was there has turned. For calls that freeze bytes of their own. -/
namespace Go.Proofs.YtbmcjoaigajjkaaDoor
open Go.RowKit Go.ChangeShapes
variable {P : Program} {H : Type} {enc : TypeId × Value → H}

theorem post_of_below {f : Func} {s : ChangeSpec} {apart fresh handsOn again : Bool} {W W' : World} {args : Array Value} {v : Value} {ds gs : List (DataW H)} {before pa pv : List MemPlace}
    (hW : DataW.Whole enc P f.params.toList s.vars apart W args.toList ds gs before)
    (hres : ∀ (b : Nat) (sp : Nat → Bool) (hd : Bool), DataW.TrodAll enc P W' b sp hd f.resultTypes.toList (v.resultList f.resultTypes.size) (s.fn H (ds ++ gs)).results [])
    (hargs : ∀ sp : Nat → Bool, (∀ p ∈ before, sp p.block = true) → DataW.TrodAll enc P W' 0 sp true f.params.toList args.toList (s.fn H (ds ++ gs)).args pa)
    (hvars : ∀ sp : Nat → Bool, (∀ p ∈ before, sp p.block = true) → DataW.TrodVars enc P W' sp s.vars (s.fn H (ds ++ gs)).vars pv)
    (hps : before = pa ++ pv) (hB : Below W.heap.size W W')
    (hok : ∀ (j : Nat) (t : TypeId) (r : Value), f.resultTypes[j]? = some t → (v.resultList f.resultTypes.size)[j]? = some r → Value.okWide P W' .any 0 t r) :
    s.post enc P f apart fresh handsOn again W args v W' := by
  have hold : ∀ p ∈ before, (fun b => decide (b < W.heap.size)) p.block = true := fun p hp => by simpa using hW.lt p hp
  have hlt := hW.lt
  refine ⟨ds, gs, before, [], pa, pv, hW, hres _ _ _, hargs _ hold, hvars _ hold, World.keptBut_mono (fun p hp => ⟨hp, ?_⟩) (hB.frame (· ∈ before)), fun _ => ?_⟩
  · rw [hps, List.mem_append] at hp
    exact Or.inr hp
  · obtain ⟨_, _, _, _, _, hz, hn⟩ := hW
    refine ⟨hok, _, _, ([] ++ pa) ++ pv, ⟨[] ++ pa, pv, trodAll_append (hargs _ (fun _ _ => rfl)) (hres _ _ _), hvars _ (fun _ _ => rfl), rfl, ?_, ?_⟩, ?_⟩
    · intro b off hp
      have hp' : MemPlace.cell b off ∈ before := by rw [hps]; simpa using hp
      have h1 := hlt _ hp'
      rw [hB.frozen (p := ⟨b, off, none⟩) h1]
      exact hz b off hp'
    · intro ha
      have := hn ha
      rw [hps] at this
      simpa using this
    · intro p hp _
      rw [hps]
      simpa using hp
end Go.Proofs.YtbmcjoaigajjkaaDoor

/-!   The readers of numbers and data, without what is read of pieces. -/
namespace Go.Proofs.YtbmcjoaigajjkaaDoor
open Go.RowKit
set_option linter.unusedVariables false
set_option linter.unusedSimpArgs false
/-- a number that may stand in a text, and where it ends -/
def numI (s : ByteArray) : Option (Nat × ByteArray) := match num s with
  | none => none
  | some (X, u) => if X ≤ 1000000000000 then some (X.toNat, s.extract u s.size) else none
def numIV : Option (Nat × ByteArray) → Value
  | none => .tuple #[.int .i64 0, .string ⟨#[]⟩, .bool false]
  | some (n, r) => .tuple #[.int .i64 (n : Int), .string r, .bool true]
theorem numI_none1 {s : ByteArray} (h : num s = none) : numI s = none := by unfold numI; rw [h]
theorem numI_none2 {s : ByteArray} {X : Int} {u : Nat} (h : num s = some (X, u)) (hx : ¬ X ≤ 1000000000000) : numI s = none := by unfold numI; rw [h]; exact if_neg hx
theorem numI_some {s : ByteArray} {X : Int} {u : Nat} (h : num s = some (X, u)) (hx : X ≤ 1000000000000) : numI s = some (X.toNat, s.extract u s.size) := by unfold numI; rw [h]; exact if_pos hx
theorem num_nn {s : ByteArray} {X : Int} {u : Nat} (h : num s = some (X, u)) : 0 ≤ X := rd_nn _ _ _ _ _ h
theorem numI_bd {s : ByteArray} {n : Nat} {r : ByteArray} (h : numI s = some (n, r)) : n ≤ 1000000000000 ∧ r.size ≤ s.size := by
  unfold numI at h
  cases hn : num s with
  | none => rw [hn] at h; cases h
  | some p =>
    obtain ⟨X, u⟩ := p
    rw [hn] at h
    simp only at h
    split at h
    · simp only [Option.some.injEq, Prod.mk.injEq] at h
      have := num_nn hn
      refine ⟨by omega, ?_⟩
      rw [← h.2, ByteArray.size_extract]; omega
    · cases h
def datI (s : ByteArray) : Option (ByteArray × ByteArray) := match txt s with
  | none => none
  | some (n, u) => some (s.extract u (u + n), s.extract (u + n) s.size)
theorem datI_out (s : ByteArray) : textOut s = (match datI s with | none => .tuple #[.string ⟨#[]⟩, .string ⟨#[]⟩, .bool false] | some (d, r) => .tuple #[.string d, .string r, .bool true]) := by
  unfold textOut datI
  cases txt s with
  | none => rfl
  | some p => obtain ⟨n, u⟩ := p; rfl
theorem datI_bd {s d r : ByteArray} (h : datI s = some (d, r)) : d.size ≤ s.size ∧ r.size ≤ s.size := by
  unfold datI at h
  cases ht : txt s with
  | none => rw [ht] at h; cases h
  | some p =>
    obtain ⟨n, u⟩ := p
    rw [ht] at h
    simp only [Option.some.injEq, Prod.mk.injEq] at h
    rw [← h.1, ← h.2, ByteArray.size_extract, ByteArray.size_extract]; omega
def datIV : Option (ByteArray × ByteArray) → Value
  | none => .tuple #[.string ⟨#[]⟩, .string ⟨#[]⟩, .bool false]
  | some (d, r) => .tuple #[.string d, .string r, .bool true]
theorem datI_numn {s : ByteArray} (h : numI s = none) : datI s = none := by
  unfold datI txt
  cases hn : num s with
  | none => rfl
  | some p =>
    obtain ⟨X, u⟩ := p
    have hx : ¬ X ≤ 1000000000000 := fun c => by rw [numI_some hn c] at h; cases h
    simp only
    rw [if_neg (fun c => hx (by have := c.1; omega))]
theorem datI_numb {s r : ByteArray} {n : Nat} (h : numI s = some (n, r)) (hb : ¬ (n ≤ 100000 ∧ n ≤ r.size)) : datI s = none := by
  unfold datI txt
  cases hn : num s with
  | none => rfl
  | some p =>
    obtain ⟨X, u⟩ := p
    have h0 := num_nn hn
    have hx : X ≤ 1000000000000 := by
      by_cases c : X ≤ 1000000000000
      · exact c
      · rw [numI_none2 hn c] at h; cases h
    rw [numI_some hn hx] at h
    simp only [Option.some.injEq, Prod.mk.injEq] at h
    obtain ⟨rfl, rfl⟩ := h
    simp only
    rw [if_neg (fun c => hb ⟨by have := c.1; omega, by rw [ByteArray.size_extract]; have := c.2; omega⟩)]
theorem datI_num {s r : ByteArray} {n : Nat} (h : numI s = some (n, r)) (h1 : n ≤ 100000) (h2 : n ≤ r.size) : datI s = some (r.extract 0 n, r.extract n r.size) := by
  unfold datI txt
  cases hn : num s with
  | none => rw [numI_none1 hn] at h; cases h
  | some p =>
    obtain ⟨X, u⟩ := p
    have h0 := num_nn hn
    have hu := num_bd hn
    have hx : X ≤ 1000000000000 := by
      by_cases c : X ≤ 1000000000000
      · exact c
      · rw [numI_none2 hn c] at h; cases h
    rw [numI_some hn hx] at h
    simp only [Option.some.injEq, Prod.mk.injEq] at h
    obtain ⟨rfl, rfl⟩ := h
    rw [ByteArray.size_extract] at h2
    simp only
    rw [if_pos ⟨by omega, by omega⟩]
    simp only
    rw [ext_mid _ _ _ (by omega)]
    have e : (s.extract u s.size).size = s.size - u := by rw [ByteArray.size_extract]; omega
    rw [e, ext_tail]
theorem results_cell_2 {P : Program} {fn : Func} {t u p : Tmp} {ty : TypeId} (h : fn.results = #[.cell p ty, .tmp t, .tmp u]) (tmps : Array Value) (w : World) (g : Nat) (t2 : TypeId) (cs : Array Value) (fr : Nat × Nat) (d : TypeDesc)
    (hp : tmps.getD p undef = .pointer (some ⟨g, 0, none⟩)) (hg : w.heap[g]? = some (.cells cs t2 fr))
    (hu : P.underlying ty = some d) (hd : (match d with | .struct _ | .array _ _ => true | _ => false) = true) (hi : (P.info? ty).map (·.size) = some cs.size) :
    (results fn tmps).run P w = .ok (.tuple #[.agg cs, tmps.getD t undef, tmps.getD u undef]) w := by
  have hp' : tmps[p]?.getD undef = .pointer (some ⟨g, 0, none⟩) := by simpa using hp
  simp [results, h, hp', asAddr, run_loadVar_row w g t2 ty cs fr d hg hu hd hi]
end Go.Proofs.YtbmcjoaigajjkaaDoor
