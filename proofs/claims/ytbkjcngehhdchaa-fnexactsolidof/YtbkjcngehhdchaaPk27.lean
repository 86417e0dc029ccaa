/-
  Several texts of this seat as one: TakeText, TakeTextc, Post.
-/
import Derived.Test.YtbkjcngehhdchaaPk25
import Derived.OpenShut
import Derived.Deep.RegionWith
import Derived.Test.YtbkjcngehhdchaaRows
import Derived.WalkKit
import Derived.ProofKit

/-!   What TakeText answers, the specification's. -/
namespace Go.Proofs.Ytbkjcngehhdchaa
open Go.RowKit

theorem grp_bd (X : Int) (k : Nat) (c : UInt8) : 0 ≤ grp X k c := (bounds_u64 (wf_bits .or .u64 X _)).1
theorem rd_nn : ∀ (l : List UInt8) (X : Int) (k : Nat) (Y : Int) (u : Nat), rd X k l = some (Y, u) → 0 ≤ Y
  | [], X, k, Y, u, h => by simp [rd] at h
  | c :: cs, X, k, Y, u, h => by
    rw [rd] at h
    by_cases h10 : 10 ≤ k
    · rw [if_pos h10] at h; cases h
    rw [if_neg h10] at h
    by_cases h9 : k = 9 ∧ 1 < c.toNat
    · rw [if_pos h9] at h; cases h
    rw [if_neg h9] at h
    by_cases h1 : c.toNat < 128
    · rw [if_pos h1] at h
      by_cases h0 : 0 < k ∧ c.toNat = 0
      · rw [if_pos h0] at h; cases h
      · rw [if_neg h0] at h
        simp only [Option.some.injEq, Prod.mk.injEq] at h
        rw [← h.1]; exact grp_bd _ _ _
    · rw [if_neg h1] at h
      exact rd_nn cs _ _ _ _ h

/-- the text's length and where it begins, where there is a text -/
def txt (s : ByteArray) : Option (Nat × Nat) := match num s with
  | none => none
  | some (X, u) => if X ≤ 100000 ∧ X ≤ ((s.size - u : Nat) : Int) then some (X.toNat, u) else none
def textOut (s : ByteArray) : Value := match txt s with
  | none => .tuple #[.string ⟨#[]⟩, .string ⟨#[]⟩, .bool false]
  | some (n, u) => .tuple #[.string (s.extract u (u + n)), .string (s.extract (u + n) s.size), .bool true]
theorem textOut_none {s : ByteArray} (h : txt s = none) : textOut s = .tuple #[.string ⟨#[]⟩, .string ⟨#[]⟩, .bool false] := by unfold textOut; rw [h]
theorem textOut_some {s : ByteArray} {n u : Nat} (h : txt s = some (n, u)) : textOut s = .tuple #[.string (s.extract u (u + n)), .string (s.extract (u + n) s.size), .bool true] := by unfold textOut; rw [h]

theorem ext_mid (s : ByteArray) (u n : Nat) (h : u + n ≤ s.size) : (s.extract u s.size).extract 0 n = s.extract u (u + n) := by
  apply ByteArray.ext
  simp [ByteArray.data_extract, Array.extract_extract]
  congr 1
  have : s.data.size = s.size := rfl
  omega
theorem ext_tail (s : ByteArray) (u n : Nat) : (s.extract u s.size).extract n (s.size - u) = s.extract (u + n) s.size := by
  apply ByteArray.ext
  simp [ByteArray.data_extract, Array.extract_extract]
  congr 1
  have : s.data.size = s.size := rfl
  omega

set_option maxRecDepth 100000 in
set_option maxHeartbeats 1000000 in
theorem stakeText_any (s : ByteArray) (w : World) (hs : s.size ≤ maxLen) (hb : s.size ≤ 281474976710656) :
    Calls Try.prog 40 #[.string s] w fun e w' => e = .returned (textOut s) ∧ Below w.heap.size w w' := by
  rcases hn : num s with _ | ⟨X, u⟩
  · have H1 : Hid _ := takeOut_none hn
    have H2 : Hid (textOut s = _) := textOut_none (by unfold txt; rw [hn])
    clear hn
    go_enter Try.func40, Try.ntmps40
    go_wp2_with fail
    refine (stake_any s _ hs).mono ?_
    rintro e w1 ⟨he, hb1⟩
    rw [H1.out] at he
    subst he
    go_wp2_with fail
    go_ret3
    exact ⟨by rw [H2.out]; rfl, hb1⟩
  · have hu := num_bd hn
    have hnn := rd_nn _ _ _ _ _ hn
    obtain ⟨n, rfl⟩ := Int.eq_ofNat_of_zero_le hnn
    have H1 : Hid _ := takeOut_some hn
    obtain ⟨hu1, hu2, hu3⟩ := hu
    have hxs : (s.extract u s.size).size = s.size - u := by simp
    by_cases h1 : n ≤ 100000
    · by_cases h2 : n ≤ s.size - u
      · have H2 : Hid (textOut s = _) := textOut_some (n := n) (u := u) (by unfold txt; rw [hn]; simp only []; rw [if_pos ⟨by omega, by omega⟩]; rfl)
        clear hn
        go_enter Try.func40, Try.ntmps40
        go_wp2_with fail
        refine (stake_any s _ hs).mono ?_
        rintro e w1 ⟨he, hb1⟩
        rw [H1.out] at he
        subst he
        go_wp2_with fail
        have E1 : Hid _ := ext_mid s u n (by omega)
        have E2 : Hid _ := ext_tail s u n
        go_region
        go_wp2_with fail
        go_ret3
        refine ⟨?_, hb1.drew⟩
        rw [H2.out, ← E1.out, ← E2.out]; rfl
      · have H2 : Hid (textOut s = _) := textOut_none (by unfold txt; rw [hn]; simp only []; rw [if_neg (by omega)])
        clear hn
        go_enter Try.func40, Try.ntmps40
        go_wp2_with fail
        refine (stake_any s _ hs).mono ?_
        rintro e w1 ⟨he, hb1⟩
        rw [H1.out] at he
        subst he
        go_wp2_with fail
        go_ret3
        exact ⟨by rw [H2.out]; rfl, hb1⟩
    · have H2 : Hid (textOut s = _) := textOut_none (by unfold txt; rw [hn]; simp only []; rw [if_neg (by omega)])
      clear hn
      go_enter Try.func40, Try.ntmps40
      go_wp2_with fail
      refine (stake_any s _ hs).mono ?_
      rintro e w1 ⟨he, hb1⟩
      rw [H1.out] at he
      subst he
      go_wp2_with fail
      go_ret3
      exact ⟨by rw [H2.out]; rfl, hb1⟩
end Go.Proofs.Ytbkjcngehhdchaa

/-!   What TakeText answers, the code's. -/
namespace Go.Proofs.Ytbkjcngehhdchaa
open Go.RowKit

theorem clone_in (w : World) (s : ByteArray) (W : World) (hlim : s.size ≤ 281474976710656) (hB : Below w.heap.size w W) :
    Calls Try.prog 64 #[.string s] W fun e w' => e = .returned (.string s) ∧ Below w.heap.size w w' :=
  (clone_any s W hlim).mono fun _ _ ⟨h1, h2⟩ => ⟨h1, hB.trans (h2.mono hB.size)⟩
theorem ext_le {s : ByteArray} {B : Nat} (h : s.size ≤ B) (a b : Nat) : (s.extract a b).size ≤ B := by
  simp; omega

end Go.Proofs.Ytbkjcngehhdchaa

/-!   Of what every law's row asks behind a call: nothing that was there has turned. For calls that freeze bytes of their own. -/
namespace Go.Proofs.Ytbkjcngehhdchaa
open Go.RowKit Go.ChangeShapes
variable {P : Program} {H : Type} {enc : TypeId × Value → H}

theorem post_of_below {f : Func} {s : ChangeSpec} {apart fresh handsOn again : Bool} {W W' : World} {args : Array Value} {v : Value} {ds gs : List (DataW H)} {before pa pv : List MemPlace}
    (hW : DataW.Whole enc P f.params.toList s.vars apart W args.toList ds gs before)
    (hres : ∀ (b : Nat) (sp : Nat → Bool) (hd : Bool), DataW.TrodAll enc P W' b sp hd f.resultTypes.toList (v.resultList f.resultTypes.size) (s.fn H (ds ++ gs)).results [])
    (hargs : ∀ sp : Nat → Bool, (∀ p ∈ before, sp p.block = true) → DataW.TrodAll enc P W' 0 sp true f.params.toList args.toList (s.fn H (ds ++ gs)).args pa)
    (hvars : ∀ sp : Nat → Bool, (∀ p ∈ before, sp p.block = true) → DataW.TrodVars enc P W' sp s.vars (s.fn H (ds ++ gs)).vars pv)
    (hps : before = pa ++ pv) (hB : Below W.heap.size W W')
    (hok : ∀ (j : Nat) (t : TypeId) (r : Value), f.resultTypes[j]? = some t → (v.resultList f.resultTypes.size)[j]? = some r → Value.okWide P W' .any 0 t r) :
    s.post enc P f apart fresh handsOn again W args v W' := by
  have hold : ∀ p ∈ before, (fun b => decide (b < W.heap.size)) p.block = true := fun p hp => by simpa using hW.lt p hp
  have hlt := hW.lt
  refine ⟨ds, gs, before, [], pa, pv, hW, hres _ _ _, hargs _ hold, hvars _ hold, World.keptBut_mono (fun p hp => ⟨hp, ?_⟩) (hB.frame (· ∈ before)), fun _ => ?_⟩
  · rw [hps, List.mem_append] at hp
    exact Or.inr hp
  · obtain ⟨_, _, _, _, _, hz, hn⟩ := hW
    refine ⟨hok, _, _, ([] ++ pa) ++ pv, ⟨[] ++ pa, pv, trodAll_append (hargs _ (fun _ _ => rfl)) (hres _ _ _), hvars _ (fun _ _ => rfl), rfl, ?_, ?_⟩, ?_⟩
    · intro b off hp
      have hp' : MemPlace.cell b off ∈ before := by rw [hps]; simpa using hp
      have h1 := hlt _ hp'
      rw [hB.frozen (p := ⟨b, off, none⟩) h1]
      exact hz b off hp'
    · intro ha
      have := hn ha
      rw [hps] at this
      simpa using this
    · intro p hp _
      rw [hps]
      simpa using hp
end Go.Proofs.Ytbkjcngehhdchaa
