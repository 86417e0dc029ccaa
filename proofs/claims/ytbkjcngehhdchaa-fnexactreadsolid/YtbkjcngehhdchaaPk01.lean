/-
  Several texts of this seat as one: MbC, MbS, Clone.
-/
import Derived.Test.YtbkjcngehhdchaaPk00
import Derived.Laws.Rows
import Derived.Lib.Hide
import Derived.Maps.OwnOps
import Derived.Maps.OwnSet
import Derived.BigQuiet
import Derived.BigRegion
import Derived.Test.YtbkjcngehhdchaaRows
import Derived.Lib.Strings
import Derived.Lib.Walk
import Derived.Lib.BufferWrite
import Derived.Lib.UnsafeStr
import Derived.Laws.MakeOwn
import Derived.WalkKit

/-!   Whether members are right: the code's, by a map of their names. -/
namespace Go.Proofs.Ytbkjcngehhdchaa
open Go.RowKit
open Go.Maps (Keyed)
set_option linter.unusedVariables false
set_option linter.unusedSimpArgs false
theorem hidM {p : Prop} (h : p) : Hid p := h
theorem hold_goalM {p : Prop} (h : Hid p) : p := h.out
theorem zeroM (w : World) : (zeroValue 3).run Try.prog w = .ok (.int .i64 0) w := by kernel_rfl
theorem strK : Keyed Try.prog 9 := Maps.string_keyed Try.underlying9
theorem own_otherM {w w' : World} {b n : Nat} {D : DataW Unit} (h : w.ownsMap Try.prog 9 (plainElem (H := Unit) Try.prog 3) b n D) (he : w'.heap[b]? = w.heap[b]?) : w'.ownsMap Try.prog 9 (plainElem (H := Unit) Try.prog 3) b n D := by
  obtain ⟨es, clock, hb, F, hs, hD⟩ := h
  exact ⟨es, clock, he.trans hb, F, hs, hD⟩
structure MW (F : Nat → MbI) (n : Nat) (w wr : World) : Prop where
  below : Below w.heap.size w wr
  own : wr.ownsMap Try.prog 9 (plainElem (H := Unit) Try.prog 3) w.heap.size n (mbD F n)
theorem mb_key {p : MbI} (h : p.a.size ≤ 1100000) : keyOf Try.prog 9 (.string p.a) = some (mbK p) :=
  WideMaps.keyOf_string_mk Try.underlying9 (by unfold maxLen; omega)
set_option maxRecDepth 100000 in
set_option maxHeartbeats 2000000 in
theorem places_any (v : Value) (n : Nat) (F : Nat → MbI) (w : World) (hF : MbLe F n) (h : MbArg w v n F) :
    Calls Try.prog 47 #[v] w fun e w' => e = .returned (.map (some w.heap.size)) ∧ MW F n w w' := by
  obtain ⟨a, c, rfl, hr⟩ := h
  have hmm := @run_makeMap Try.prog
  have HF := hidM hF
  have hnI : (n : Int) ≤ 1100000 := by have := hF.len; omega
  have HR : Hid (0 < n → ∃ g, a = some ⟨g, 0, none⟩ ∧ MbRow w g n F) := hr
  have HST : Hid (MW F 0 w (w.alloc (.map #[] 0))) := ⟨(Below.refl _ _).alloc (Nat.le_refl _) _, World.ownsMap_made w Try.prog 9 (plainElem (H := Unit) Try.prog 3)⟩
  clear hr hF
  go_enter Try.func47, Try.ntmps47
  go_wp2_with fail
  clear hmm
  generalize w.alloc (.map #[] 0) = W2 at HST ⊢
  go_loopw [9] (fun x wr => ∃ i : Nat, i ≤ n ∧ x = .int .i64 (i : Int) ∧ Hid (MW F i w wr)) (fun x _ => n - (intMb x).toNat)
  case atStart => exact ⟨0, by omega, rfl, HST⟩
  case round =>
    clear HST
    obtain ⟨i, hi, rfl, HW⟩ := hrel
    by_cases hlt : i < n
    · have hltI : (i : Int) < (n : Int) := by omega
      obtain ⟨g, rfl, hrow⟩ := HR.out (by omega)
      have hrow2 := hrow.below HW.out.below hrow.lt
      obtain ⟨q, hq⟩ : ∃ q, q = 2 * i := ⟨_, rfl⟩
      have x0 := hrow2.c0 i hlt
      have x1 := hrow2.c1 i hlt
      rw [← hq] at x0 x1
      have hiq : i * 2 = q := by omega
      have HKEY := hidM (mb_key (p := F i) (HF.out.n hlt).1)
      have HD : Hid (mbD F (i + 1) = (mbD F i).put (mbK (F i)) (.lit (.int .i64 (i : Int)))) := rfl
      have HN2 : Hid (i < maxLen) := by have h1 := HF.out.len; have h2 : maxLen = 9223372036854775807 := rfl; show i < maxLen; omega
      clear hrow hrow2 hq
      generalize F i = p at x0 x1 HKEY HD
      obtain ⟨pa, pd⟩ := p
      simp only at x0 x1 HKEY
      have HO := hidM (HW.out.own.alloc (.cells #[.string pa, .string pd] 41))
      have HB := hidM (HW.out.below.alloc HW.out.below.size (.cells #[.string pa, .string pd] 41))
      have HWF : Hid ((Lit.int .i64 (i : Int)).wf = true) := by
        show (Lit.int .i64 (i : Int)).wf = true
        simp [Lit.wf, IntKind.min, IntKind.max, IntKind.signed, IntKind.bits]; omega
      clear HW
      go_wp2_with (at_mapUpdate; refine wpList_mapUpdate_own _ rfl _ _ _ 73 rfl 9 3 strK Try.underlying73 _ w.heap.size i _ rfl HO.out HN2.out _ _ _ rfl rfl HKEY.out _ [] (plainElem_int Try.underlying3 HWF.out) ?_; intro w1 hown1 hgrow1; refine hold_goalM ?_)
      have HW1 : Hid (MW F (i + 1) w w1) := ⟨HB.out.grown hgrow1 HB.out.size (fun j hj => by cases hj; exact Nat.le_refl _), by rw [HD.out]; exact hown1⟩
      clear hown1 hgrow1 HO HB
      unfold Hid
      go_wp2_with fail
      go_roundw
      case rel => exact ⟨i + 1, by omega, by go_num, HW1⟩
      case measure => simp [intMb]; omega
    · obtain rfl : i = n := by omega
      go_wp2_with fail
      go_ret
      exact ⟨rfl, HW.out⟩
theorem mb_ne {d : ByteArray} (h : 1 ≤ d.size) : d.toList.isEmpty = false := by
  rw [ByteArray.toList_eq]
  cases hd : d.data.toList with
  | nil =>
    exfalso
    have e : d.size = d.data.toList.length := by show d.data.size = _; simp
    rw [hd] at e
    have e : d.size = 0 := e
    omega
  | cons a l => rfl
theorem mb_eq {d : ByteArray} (h : ¬ 1 ≤ d.size) : d = ⟨#[]⟩ := by
  have e : d.size = d.data.toList.length := by show d.data.size = _; simp
  cases hd : d.data.toList with
  | nil =>
    have e2 : d.data = #[] := Array.toList_inj.1 hd
    cases d; simp at e2; subst e2; rfl
  | cons a l => rw [hd] at e; simp at e; omega
set_option maxRecDepth 100000 in
set_option maxHeartbeats 2000000 in
theorem mbs_loop (a : Option Addr) (c n : Nat) (F : Nat → MbI) (w : World) (hn : n ≤ 60) (hF : MbLe F n) (hr : 0 < n → ∃ g, a = some ⟨g, 0, none⟩ ∧ MbRow w g n F) :
    Calls Try.prog 21 #[.slice a n c] w fun e w' => e = .returned (.bool (mbB F n)) ∧ Below w.heap.size w w' := by
  have HPL : Hid (∀ w, (0 < n → ∃ g, a = some ⟨g, 0, none⟩ ∧ MbRow w g n F) → Calls Try.prog 47 #[.slice a n c] w fun e w' => e = .returned (.map (some w.heap.size)) ∧ MW F n w w') := fun w h => places_any _ n F w hF ⟨_, _, rfl, h⟩
  have hnI : ¬ (60 : Int) < (n : Int) := by omega
  have HF := hidM hF
  have HR : Hid (0 < n → ∃ g, a = some ⟨g, 0, none⟩ ∧ MbRow w g n F) := hr
  clear hr hF
  go_enter Try.func21, Try.ntmps21
  go_wp2_with fail
  go_loopw [3, 11] (fun u x wr => ∃ i : Nat, i ≤ n ∧ x = .int .i64 (i : Int) ∧ u = .int .i64 ((mbSum F i : Nat) : Int) ∧ Hid (∀ j, j < i → mbN (F j)) ∧ Hid (Below w.heap.size w wr)) (fun _ x _ => n - (intMb x).toNat)
  case atStart => exact ⟨0, by omega, rfl, rfl, fun j hj => absurd hj (by omega), Below.refl _ _⟩
  case round =>
    obtain ⟨i, hi, rfl, rfl, HG, HB⟩ := hrel
    by_cases hlt : i < n
    · have hltI : (i : Int) < (n : Int) := by omega
      obtain ⟨g, rfl, hrow⟩ := HR.out (by omega)
      have hrow2 := hrow.below HB.out hrow.lt
      obtain ⟨q, hq⟩ : ∃ q, q = 2 * i := ⟨_, rfl⟩
      have x0 := hrow2.c0 i hlt
      have x1 := hrow2.c1 i hlt
      rw [← hq] at x0 x1
      have hiq : i * 2 = q := by omega
      have HST : Hid (mbN (F i) → ∀ j, j < i + 1 → mbN (F j)) := fun h j hj => by
        by_cases e : j < i
        · exact HG.out j e
        · obtain rfl : j = i := by omega
          exact h
      have HNO : Hid (¬ mbN (F i) → mbB F n = false) := fun h => mbB_no fun c => h (c.2.1 i hlt)
      have HS : Hid (mbSum F (i + 1) = mbSum F i + (F i).d.size) := rfl
      have hs1 : mbSum F i + (F i).d.size ≤ 1100000 := by
        have h1 := mbSum_mono F (i := i + 1) (n := n) hlt
        have h2 := mbSum_tot F n
        have h3 := HF.out.tot
        have h4 := HS.out
        omega
      obtain ⟨X, hX⟩ : ∃ X, X = mbSum F i := ⟨_, rfl⟩
      rw [← hX] at HS hs1 ⊢
      clear hrow hrow2 hq hX HG
      generalize F i = p at x0 x1 HST HNO HS hs1
      obtain ⟨pa, pd⟩ := p
      unfold mbN at HST HNO
      simp only at x0 x1 HST HNO HS hs1
      have hw : IntKind.i64.wrap ((X : Int) + (pd.size : Int)) = ((X + pd.size : Nat) : Int) := by rw [IntKind.wrap_i64]; omega
      have HB1 := hidM (HB.out.alloc HB.out.size (.cells #[.string pa, .string pd] 41))
      clear HB
      by_cases h1 : 1 ≤ pa.size
      · have he := mb_ne h1
        by_cases h2 : pa.size ≤ 120
        · have h2I : ¬ (120 : Int) < (pa.size : Int) := by omega
          have HST2 := hidM (HST.out ⟨h1, h2⟩)
          clear h1 h2 HST HNO hs1
          go_wp2_with fail
          go_roundw
          case rel => exact ⟨i + 1, by omega, by go_num, by rw [HS.out]; exact congrArg (Value.int .i64) (by omega), HST2, HB1⟩
          case measure => simp [intMb]; omega
        · have h2I : (120 : Int) < (pa.size : Int) := by omega
          have HNN := hidM (HNO.out (fun c => h2 c.2))
          clear h1 h2 HST HNO hs1
          go_wp2_with fail
          go_ret
          exact ⟨by rw [HNN.out]; rfl, HB1.out⟩
      · have HNN := hidM (HNO.out (fun c => h1 c.1))
        obtain rfl := mb_eq h1
        clear h1 HST HNO hs1
        go_wp2_with fail
        go_ret
        exact ⟨by rw [HNN.out]; rfl, HB1.out⟩
    · obtain rfl : i = n := by omega
      have HRR : Hid (0 < i → ∃ g, a = some ⟨g, 0, none⟩ ∧ MbRow wr g i F) := fun h0 => by
        obtain ⟨g, h1, h2⟩ := HR.out h0
        exact ⟨g, h1, h2.below HB.out h2.lt⟩
      have HY : Hid (mbSum F i ≤ 4000 → mbU F i → mbB F i = true) := fun h1 h2 => mbB_yes ⟨hn, HG.out, h1, h2⟩
      have HN1 : Hid (¬ mbSum F i ≤ 4000 → mbB F i = false) := fun h => mbB_no fun c => h c.2.2.1
      have HN2 : Hid (¬ mbU F i → mbB F i = false) := fun h => mbB_no fun c => h c.2.2.2
      have HSY : Hid (mbU F i → Maps.size (mbD F i) = i) := fun h => mbD_size_yes i h
      have HSN : Hid (¬ mbU F i → Maps.size (mbD F i) < i) := fun h => mbD_size_no i h
      generalize mbSum F i = X at HY HN1 ⊢
      clear HG HF
      by_cases h4 : X ≤ 4000
      · have h4I : (X : Int) ≤ 4000 := by omega
        by_cases hu : mbU F i
        · have HA := hidM (HY.out h4 hu)
          have hsz := HSY.out hu
          clear HY HN1 HN2 HSY HSN h4 hu
          go_wp2_with fail
          refine (HPL.out _ HRR.out).mono ?_
          rintro e w3 ⟨rfl, hm⟩
          have HM := hidM hm
          have hlen : ∀ ty, (Builtin.len_ #[73] ty #[.map (some wr.heap.size)]).run Try.prog w3 = .ok (.int .i64 (i : Int)) w3 := fun ty => by
            have h := hm.own.len Try.underlying73 ty
            rw [hsz] at h
            exact h
          clear hm hsz
          go_wp2_with fail
          go_ret
          exact ⟨by rw [HA.out]; first | rfl | simp, blMb HB.out HM.out.below HB.out.size⟩
        · have HA := hidM (HN2.out hu)
          have hsz := HSN.out hu
          obtain ⟨Y, hY⟩ : ∃ Y, Y = Maps.size (mbD F i) := ⟨_, rfl⟩
          clear HY HN1 HN2 HSY HSN h4 hu
          go_wp2_with fail
          refine (HPL.out _ HRR.out).mono ?_
          rintro e w3 ⟨rfl, hm⟩
          have HM := hidM hm
          have hlen : ∀ ty, (Builtin.len_ #[73] ty #[.map (some wr.heap.size)]).run Try.prog w3 = .ok (.int .i64 (Y : Int)) w3 := fun ty => by
            have h := hm.own.len Try.underlying73 ty
            rw [← hY] at h
            exact h
          rw [← hY] at hsz
          have hyI : ((Y : Int) == (i : Int)) = false := beq_eq_false_iff_ne.2 (by omega)
          clear hm hY hsz
          go_wp2_with fail
          go_ret
          exact ⟨by rw [HA.out]; first | rfl | simp, blMb HB.out HM.out.below HB.out.size⟩
      · have h4I : ¬ (X : Int) ≤ 4000 := by omega
        have HA := hidM (HN1.out h4)
        clear HY HN1 HN2 HSY HSN h4
        go_wp2_with fail
        go_ret
        exact ⟨by rw [HA.out]; first | rfl | simp; omega, HB.out⟩
set_option maxRecDepth 100000 in
theorem mbs_bad (a : Option Addr) (c n : Nat) (F : Nat → MbI) (w : World) (h : ¬ n ≤ 60) :
    Calls Try.prog 21 #[.slice a n c] w fun e w' => e = .returned (.bool (mbB F n)) ∧ Below w.heap.size w w' := by
  rw [mbB_no fun c => h c.1]
  have h3I : (60 : Int) < (n : Int) := by omega
  clear h
  go_enter Try.func21, Try.ntmps21
  go_wp2_with fail
  go_ret
  exact ⟨rfl, Below.refl _ _⟩
theorem mbs_any (v : Value) (n : Nat) (F : Nat → MbI) (w : World) (hF : MbLe F n) (h : MbArg w v n F) :
    Calls Try.prog 21 #[v] w fun e w' => e = .returned (.bool (mbB F n)) ∧ Below w.heap.size w w' := by
  obtain ⟨a, c, rfl, hr⟩ := h
  by_cases h : n ≤ 60
  · exact mbs_loop a c n F w h hF hr
  · exact mbs_bad a c n F w h
end Go.Proofs.Ytbkjcngehhdchaa

/-!   Whether members are right: the specification's, name by name. -/
namespace Go.Proofs.Ytbkjcngehhdchaa
open Go.RowKit
set_option linter.unusedVariables false
set_option linter.unusedSimpArgs false
set_option maxRecDepth 100000 in
set_option maxHeartbeats 4000000 in
theorem smbs_loop (a : Option Addr) (c n : Nat) (F : Nat → MbI) (w : World) (hn : n ≤ 60) (hF : MbLe F n) (hr : 0 < n → ∃ g, a = some ⟨g, 0, none⟩ ∧ MbRow w g n F) :
    Calls Try.prog 25 #[.slice a n c] w fun e w' => e = .returned (.bool (mbB F n)) ∧ Below w.heap.size w w' := by
  have hnI : ¬ (60 : Int) < (n : Int) := by omega
  have hn60 : (n : Int) ≤ 60 := by omega
  have HF := hidM hF
  have HR : Hid (0 < n → ∃ g, a = some ⟨g, 0, none⟩ ∧ MbRow w g n F) := hr
  clear hr hF
  go_enter Try.func25, Try.ntmps25
  go_wp2_with fail
  go_loopw [3, 4] (fun u x wr => ∃ i : Nat, i ≤ n ∧ x = .int .i64 (i : Int) ∧ u = .int .i64 ((mbSum F i : Nat) : Int) ∧ Hid ((∀ j, j < i → mbN (F j)) ∧ mbSum F i ≤ 4000 ∧ mbU F i) ∧ Hid (Below w.heap.size w wr)) (fun _ x _ => n - (intMb x).toNat)
  case atStart => exact ⟨0, by omega, rfl, rfl, ⟨fun j hj => absurd hj (by omega), Nat.zero_le _, fun j k hk hj => absurd hj (by omega)⟩, Below.refl _ _⟩
  case round =>
    obtain ⟨i, hi, rfl, rfl, HG, HB⟩ := hrel
    by_cases hlt : i < n
    · have hltI : (i : Int) < (n : Int) := by omega
      obtain ⟨g, rfl, hrow⟩ := HR.out (by omega)
      have HRW : Hid (∀ w', Below w.heap.size w w' → MbRow w' g n F) := fun w' hb => hrow.below hb hrow.lt
      have hrow2 := HRW.out wr HB.out
      obtain ⟨q, hq⟩ : ∃ q, q = 2 * i := ⟨_, rfl⟩
      have x0 := hrow2.c0 i hlt
      have x1 := hrow2.c1 i hlt
      rw [← hq] at x0 x1
      have hiq : i * 2 = q := by omega
      have HQ : Hid (q = 2 * i) := hq
      have HNO : Hid (¬ mbN (F i) → mbB F n = false) := fun h => mbB_no fun c => h (c.2.1 i hlt)
      have HNS : Hid (4000 < mbSum F (i + 1) → mbB F n = false) := fun h => mbB_no fun c => by
        have h1 := mbSum_mono F (i := i + 1) (n := n) hlt
        have h2 := c.2.2.1
        omega
      have HS : Hid (mbSum F (i + 1) = mbSum F i + (F i).d.size) := rfl
      have hs0 := HG.out.2.1
      have hsd := (HF.out.n hlt).2
      obtain ⟨X, hX⟩ : ∃ X, X = mbSum F i := ⟨_, rfl⟩
      rw [← hX] at HS hs0 ⊢
      have HIL : Hid (i < n ∧ i ≤ 60) := ⟨hlt, by omega⟩
      have hi60 : i ≤ 60 := by omega
      clear hrow hrow2 hq hX
      have hin : mbN (F i) ∨ ¬ mbN (F i) := Classical.em _
      obtain ⟨pa, hpa⟩ : ∃ pa, pa = (F i).a := ⟨_, rfl⟩
      obtain ⟨pd, hpd⟩ : ∃ pd, pd = (F i).d := ⟨_, rfl⟩
      rw [← hpa] at x0
      rw [← hpd] at x1 HS hsd
      have HPA : Hid (pa = (F i).a) := hpa
      have HPD : Hid (pd = (F i).d) := hpd
      have hw : IntKind.i64.wrap ((X : Int) + (pd.size : Int)) = ((X + pd.size : Nat) : Int) := by rw [IntKind.wrap_i64]; omega
      unfold mbN at hin HNO
      rw [← hpa] at hin HNO
      clear hpa hpd
      rcases hin with ⟨h1, h2⟩ | hno
      · have h1I : ¬ (pa.size : Int) < 1 := by omega
        have h2I : ¬ (120 : Int) < (pa.size : Int) := by omega
        have HIN : Hid (mbN (F i)) := ⟨by rw [← HPA.out]; exact h1, by rw [← HPA.out]; exact h2⟩
        have HX1 := hidM x1
        have hsX : Hid (X ≤ 4000 ∧ pd.size ≤ 1100000) := ⟨hs0, hsd⟩
        have HW := hidM hw
        clear h1 h2 HNO x1 hs0 hsd hw
        go_wp2_with fail
        clear h1I h2I
        go_loopw [5] (fun y wr2 => ∃ k : Nat, k ≤ i ∧ y = .int .i64 (k : Int) ∧ Hid (∀ j, j < k → (F j).a ≠ (F i).a) ∧ Below w.heap.size w wr2) (fun y _ => i - (intMb y).toNat)
        case atStart => exact ⟨0, by omega, rfl, fun j hj => absurd hj (by omega), HB.out⟩
        case round =>
          obtain ⟨k, hk, rfl, HK, hb2⟩ := hrel
          by_cases hki : k < i
          · have hkI : (k : Int) < (i : Int) := by omega
            have hrowk := HRW.out _ hb2
            have kn : k < n := by have := HIL.out; omega
            have y0 := hrowk.c0 k kn
            have z0 := hrowk.c0 i HIL.out.1
            rw [← HQ.out, ← HPA.out] at z0
            obtain ⟨t, ht⟩ : ∃ t, t = 2 * k := ⟨_, rfl⟩
            rw [← ht] at y0
            have hkt : k * 2 = t := by omega
            have hknI : (k : Int) < (n : Int) := by omega
            have HCN : Hid ((F k).a ≠ (F i).a → ∀ j, j < k + 1 → (F j).a ≠ (F i).a) := fun h j hj => by
              by_cases e : j < k
              · exact HK.out j e
              · obtain rfl : j = k := by omega
                exact h
            have HEQ : Hid ((F k).a = (F i).a → mbB F n = false) := fun h => mbB_no fun c => c.2.2.2 k i hki HIL.out.1 h
            rw [← HPA.out] at HCN HEQ
            have HBB := hidM hb2
            generalize (F k).a = ka at y0 HCN HEQ
            clear hrowk ht hb2 x0
            by_cases he : ka = pa
            · subst he
              have HEE := hidM (HEQ.out rfl)
              clear HEQ HCN
              go_wp2_with fail
              go_region
              go_wp2_with fail
              go_ret
              exact ⟨by rw [HEE.out]; rfl, HBB.out.drew⟩
            · have he2 : (ka.toList == pa.toList) = false := by
                refine beq_eq_false_iff_ne.2 fun c => he ?_
                rw [ByteArray.toList_eq, ByteArray.toList_eq] at c
                have h2 : ka.data = pa.data := Array.toList_inj.1 c
                cases ka; cases pa
                simp at h2
                rw [h2]
              have HCC := hidM (HCN.out he)
              clear HEQ HCN he
              go_wp2_with fail
              go_region
              go_wp2_with fail
              go_roundw
              case rel => exact ⟨k + 1, by omega, by go_num, by rw [← HPA.out]; exact HCC, HBB.out.drew⟩
              case measure => simp [intMb]; omega
          · obtain rfl : k = i := by omega
            have HU : Hid (mbU F (k + 1)) := fun p r hpr hr => by
              by_cases e : r < k
              · exact HG.out.2.2 p r hpr e
              · obtain rfl : r = k := by omega
                exact HK.out p hpr
            have HNN : Hid (∀ j, j < k + 1 → mbN (F j)) := fun j hj => by
              by_cases e : j < k
              · exact HG.out.1 j e
              · obtain rfl : j = k := by omega
                exact HIN.out
            have hrowk := HRW.out _ hb2
            have x1 := hrowk.c1 k HIL.out.1
            rw [← HQ.out, ← HPD.out] at x1
            have hw := HW.out
            have HBB := hidM hb2
            clear hrowk hb2 HG HX1
            by_cases h5 : X + pd.size ≤ 4000
            · have h5I : ¬ (4000 : Int) < ((X + pd.size : Nat) : Int) := by omega
              have H5 : Hid (mbSum F (k + 1) ≤ 4000) := by rw [HS.out]; exact h5
              clear h5
              obtain ⟨Y, hY⟩ : ∃ Y, Y = X + pd.size := ⟨_, rfl⟩
              rw [← hY] at hw h5I HS
              clear hY
              go_wp2_with fail
              go_roundw
              case rel => exact ⟨k + 1, by omega, by go_num, by rw [HS.out], ⟨HNN.out, H5.out, HU.out⟩, HBB⟩
              case measure => simp [intMb]; omega
            · have h5I : (4000 : Int) < ((X + pd.size : Nat) : Int) := by omega
              have H5 : Hid (mbB F n = false) := HNS.out (by rw [HS.out]; omega)
              clear h5
              obtain ⟨Y, hY⟩ : ∃ Y, Y = X + pd.size := ⟨_, rfl⟩
              rw [← hY] at hw h5I HS
              clear hY
              go_wp2_with fail
              go_ret
              exact ⟨by rw [H5.out]; rfl, HBB.out⟩
      · have HNN := hidM (HNO.out hno)
        by_cases h1 : 1 ≤ pa.size
        · have h2I : (120 : Int) < (pa.size : Int) := by
            have : ¬ pa.size ≤ 120 := fun c => hno ⟨h1, c⟩
            omega
          have h1I : ¬ (pa.size : Int) < 1 := by omega
          clear h1 hno HNO HNS HS hw x1
          go_wp2_with fail
          go_ret
          exact ⟨by rw [HNN.out]; rfl, HB.out⟩
        · have h1I : (pa.size : Int) < 1 := by omega
          clear h1 hno HNO HNS HS hw x1
          go_wp2_with fail
          go_ret
          exact ⟨by rw [HNN.out]; rfl, HB.out⟩
    · obtain rfl : i = n := by omega
      have HQ : Hid (mbB F i = true) := mbB_yes ⟨hn, HG.out.1, HG.out.2.1, HG.out.2.2⟩
      clear HG
      generalize mbSum F i = X
      go_wp2_with fail
      go_ret
      exact ⟨by rw [HQ.out]; rfl, HB.out⟩
set_option maxRecDepth 100000 in
theorem smbs_bad (a : Option Addr) (c n : Nat) (F : Nat → MbI) (w : World) (h : ¬ n ≤ 60) :
    Calls Try.prog 25 #[.slice a n c] w fun e w' => e = .returned (.bool (mbB F n)) ∧ Below w.heap.size w w' := by
  rw [mbB_no fun c => h c.1]
  have h3I : (60 : Int) < (n : Int) := by omega
  clear h
  go_enter Try.func25, Try.ntmps25
  go_wp2_with fail
  go_ret
  exact ⟨rfl, Below.refl _ _⟩
theorem smbs_any (v : Value) (n : Nat) (F : Nat → MbI) (w : World) (hF : MbLe F n) (h : MbArg w v n F) :
    Calls Try.prog 25 #[v] w fun e w' => e = .returned (.bool (mbB F n)) ∧ Below w.heap.size w w' := by
  obtain ⟨a, c, rfl, hr⟩ := h
  by_cases h : n ≤ 60
  · exact smbs_loop a c n F w h hF hr
  · exact smbs_bad a c n F w h
end Go.Proofs.Ytbkjcngehhdchaa

/-!   strings.Clone answers a string of the same bytes, whatever the string; of what was in memory nothing is changed. Condition: the string has at most 2^48 bytes. -/
namespace Go.Proofs.Ytbkjcngehhdchaa
open Go.RowKit

theorem Try.inf5 : (Try.prog.info? 5).map (fun i => (i.zero, i.size, i.bytes)) = some (some (.int .u8 0), 1, 1) := by kernel_rfl

set_option maxHeartbeats 4000000 in
set_option maxRecDepth 100000 in
theorem lclone_any (s : ByteArray) (w : World) (hlim : s.size ≤ 281474976710656) :
    Calls Try.prog 85 #[.string s] w fun e w' => e = .returned (.string s) ∧ Below w.heap.size w w' := by
  by_cases h0 : s.size = 0
  · have hs : s = ⟨#[]⟩ := by
      apply ByteArray.ext
      exact Array.eq_empty_of_size_eq_zero h0
    subst hs
    go_enter Try.func85, Try.ntmps85
    go_wp2
    go_ret
    exact ⟨rfl, Below.refl _ _⟩
  · obtain ⟨i0, hi, hz0, hz1, hz2⟩ := info_parts Try.inf5
    have hinfo : (Try.prog.info? 5).map (·.size) = some 1 := by rw [hi]; simp [hz1]
    have hco : Try.prog.cellsOf 5 = 1 := by simp [Program.cellsOf, hi, hz1]
    obtain ⟨M, hM⟩ : ∃ M, M = madeCells (Value.int .u8 0).cells (((s.size : Nat) : Int).toNat * i0.size) := ⟨_, rfl⟩
    have hMs : M.size = s.size := by rw [hM, size_madeCells, hz1]; simp
    have hmk : ∀ W : World, (Instr.makeSlice 36 (.int .i64 (s.size : Int)) (.int .i64 (s.size : Int))).run Try.prog W = .ok (.slice (some ⟨W.heap.size, 0, none⟩) s.size s.size) (W.alloc (.cells M 5)) := fun W => by
      have h := run_make (P := Try.prog) W 36 5 i0 (.int .u8 0) Try.underlying36 hi hz0 .i64 .i64 (s.size : Int) (s.size : Int) (by omega) (by omega) (by rw [hz2]; omega) (by omega)
      rw [← hM] at h
      simpa using h
    clear hM
    have hcp := Lib.run_copy_row_string (P := Try.prog) (w.alloc (.cells M 5)) 36 9 3 5 w.heap.size 0 s.size s.size s M 5 Try.underlying36 hinfo (heap_alloc_new w _) (Nat.le_refl _) (by omega)
    obtain ⟨Y, hY⟩ : ∃ Y, Y = (M.toList.take 0 ++ Lib.byteCells s.data.toList ++ M.toList.drop (0 + s.size)).toArray := ⟨_, rfl⟩
    rw [← hY] at hcp
    have hYl : Y.toList = Lib.byteCells s.data.toList := by
      rw [hY, List.toList_toArray, List.take_zero, List.nil_append, List.drop_of_length_le (by rw [Array.length_toList]; omega), List.append_nil]
    have hYs : Y.size = s.size := by rw [← Array.length_toList, hYl, Lib.byteCells_length, ← Lib.size_eq]
    have hgY : ((w.alloc (.cells M 5)).setRow w.heap.size Y).heap[w.heap.size]? = some (.cells Y 5 (0, 0)) := setRow_heap _ _ M _ 5 (0, 0) (heap_alloc_new w _)
    have hne : s.data.toList ≠ [] := fun e => h0 (by rw [Lib.size_eq, e]; rfl)
    have hUS := Lib.run_unsafeString_row (P := Try.prog) ((w.alloc (.cells M 5)).setRow w.heap.size Y) 85 3 9 5 Try.underlying85 hco w.heap.size Y.size (by unfold World.shape?; rw [hgY]) s.data.toList hne (by rw [← Lib.size_eq]; omega) (by rw [← Lib.size_eq]; omega)
      (fun j x hx => Lib.cells_of_row hgY Y.size j _ (by rw [List.take_of_length_le (by rw [Array.length_toList]; exact Nat.le_refl _), hYl]; simp [Lib.byteCells, hx]))
    rw [← Lib.size_eq] at hUS
    clear hY
    go_enter Try.func85, Try.ntmps85
    go_wp2
    go_ret
    have hb1 : Below w.heap.size w (w.alloc (.cells M 5)) := (Below.refl _ w).alloc (Nat.le_refl _) _
    have hb2 : Below w.heap.size (w.alloc (.cells M 5)) ((w.alloc (.cells M 5)).setRow w.heap.size Y) := ⟨rfl, rfl, rfl, by simp, fun k hk => setRow_other _ _ _ _ (by omega)⟩
    exact ⟨rfl, Lib.below_freeze (hb1.trans hb2) (p := ⟨w.heap.size, 0, none⟩) (Nat.le_refl _) _⟩

theorem clone_any (s : ByteArray) (w : World) (hlim : s.size ≤ 281474976710656) :
    Calls Try.prog 64 #[.string s] w fun e w' => e = .returned (.string s) ∧ Below w.heap.size w w' := by
  go_enter Try.func64, Try.ntmps64
  go_wp2_with (go_at_call 85; refine (lclone_any _ _ hlim).mono ?_; rintro e w' ⟨rfl, hb⟩)
  go_ret
  exact ⟨rfl, hb⟩
end Go.Proofs.Ytbkjcngehhdchaa
