/-
  Whether members are right: the code's, by a map of their names.
-/
import Derived.Test.YtfegoldjejlcaaaDoorMbM
import Derived.Laws.Rows
import Derived.Lib.Hide
import Derived.Maps.OwnOps
import Derived.Maps.OwnSet
namespace Go.Proofs.YtfegoldjejlcaaaDoor
open Go.RowKit
open Go.Maps (Keyed)
set_option linter.unusedVariables false
set_option linter.unusedSimpArgs false
theorem hidM {p : Prop} (h : p) : Hid p := h
theorem hold_goalM {p : Prop} (h : Hid p) : p := h.out
theorem zeroM (w : World) : (zeroValue 3).run Tryd.prog w = .ok (.int .i64 0) w := by kernel_rfl
theorem strK : Keyed Tryd.prog 9 := Maps.string_keyed Tryd.underlying9
theorem own_otherM {w w' : World} {b n : Nat} {D : DataW Unit} (h : w.ownsMap Tryd.prog 9 (plainElem (H := Unit) Tryd.prog 3) b n D) (he : w'.heap[b]? = w.heap[b]?) : w'.ownsMap Tryd.prog 9 (plainElem (H := Unit) Tryd.prog 3) b n D := by
  obtain ⟨es, clock, hb, F, hs, hD⟩ := h
  exact ⟨es, clock, he.trans hb, F, hs, hD⟩
structure MW (F : Nat → MbI) (n : Nat) (w wr : World) : Prop where
  below : Below w.heap.size w wr
  own : wr.ownsMap Tryd.prog 9 (plainElem (H := Unit) Tryd.prog 3) w.heap.size n (mbD F n)
theorem mb_key {p : MbI} (h : p.a.size ≤ 1100000) : keyOf Tryd.prog 9 (.string p.a) = some (mbK p) :=
  WideMaps.keyOf_string_mk Tryd.underlying9 (by unfold maxLen; omega)
set_option maxRecDepth 100000 in
set_option maxHeartbeats 2000000 in
theorem places_any (v : Value) (n : Nat) (F : Nat → MbI) (w : World) (hF : MbLe F n) (h : MbArg w v n F) :
    Calls Tryd.prog 91 #[v] w fun e w' => e = .returned (.map (some w.heap.size)) ∧ MW F n w w' := by
  obtain ⟨a, c, rfl, hr⟩ := h
  have hmm := @run_makeMap Tryd.prog
  have HF := hidM hF
  have hnI : (n : Int) ≤ 1100000 := by have := hF.len; omega
  have HR : Hid (0 < n → ∃ g, a = some ⟨g, 0, none⟩ ∧ MbRow w g n F) := hr
  have HST : Hid (MW F 0 w (w.alloc (.map #[] 0))) := ⟨(Below.refl _ _).alloc (Nat.le_refl _) _, World.ownsMap_made w Tryd.prog 9 (plainElem (H := Unit) Tryd.prog 3)⟩
  clear hr hF
  go_enter Tryd.func91, Tryd.ntmps91
  go_wp2_with fail
  clear hmm
  generalize w.alloc (.map #[] 0) = W2 at HST ⊢
  go_loopw [9] (fun x wr => ∃ i : Nat, i ≤ n ∧ x = .int .i64 (i : Int) ∧ Hid (MW F i w wr)) (fun x _ => n - (intMb x).toNat)
  case atStart => exact ⟨0, by omega, rfl, HST⟩
  case round =>
    clear HST
    obtain ⟨i, hi, rfl, HW⟩ := hrel
    by_cases hlt : i < n
    · have hltI : (i : Int) < (n : Int) := by omega
      obtain ⟨g, rfl, hrow⟩ := HR.out (by omega)
      have hrow2 := hrow.below HW.out.below hrow.lt
      obtain ⟨q, hq⟩ : ∃ q, q = 2 * i := ⟨_, rfl⟩
      have x0 := hrow2.c0 i hlt
      have x1 := hrow2.c1 i hlt
      rw [← hq] at x0 x1
      have hiq : i * 2 = q := by omega
      have HKEY := hidM (mb_key (p := F i) (HF.out.n hlt).1)
      have HD : Hid (mbD F (i + 1) = (mbD F i).put (mbK (F i)) (.lit (.int .i64 (i : Int)))) := rfl
      have HN2 : Hid (i < maxLen) := by have h1 := HF.out.len; have h2 : maxLen = 9223372036854775807 := rfl; show i < maxLen; omega
      clear hrow hrow2 hq
      generalize F i = p at x0 x1 HKEY HD
      obtain ⟨pa, pd⟩ := p
      simp only at x0 x1 HKEY
      have HO := hidM (HW.out.own.alloc (.cells #[.string pa, .string pd] 46))
      have HB := hidM (HW.out.below.alloc HW.out.below.size (.cells #[.string pa, .string pd] 46))
      have HWF : Hid ((Lit.int .i64 (i : Int)).wf = true) := by
        show (Lit.int .i64 (i : Int)).wf = true
        simp [Lit.wf, IntKind.min, IntKind.max, IntKind.signed, IntKind.bits]; omega
      clear HW
      go_wp2_with (at_mapUpdate; refine wpList_mapUpdate_own _ rfl _ _ _ 111 rfl 9 3 strK Tryd.underlying111 _ w.heap.size i _ rfl HO.out HN2.out _ _ _ rfl rfl HKEY.out _ [] (plainElem_int Tryd.underlying3 HWF.out) ?_; intro w1 hown1 hgrow1; refine hold_goalM ?_)
      have HW1 : Hid (MW F (i + 1) w w1) := ⟨HB.out.grown hgrow1 HB.out.size (fun j hj => by cases hj; exact Nat.le_refl _), by rw [HD.out]; exact hown1⟩
      clear hown1 hgrow1 HO HB
      unfold Hid
      go_wp2_with fail
      go_roundw
      case rel => exact ⟨i + 1, by omega, by go_num, HW1⟩
      case measure => simp [intMb]; omega
    · obtain rfl : i = n := by omega
      go_wp2_with fail
      go_ret
      exact ⟨rfl, HW.out⟩
theorem mb_ne {d : ByteArray} (h : 1 ≤ d.size) : d.toList.isEmpty = false := by
  rw [ByteArray.toList_eq]
  cases hd : d.data.toList with
  | nil =>
    exfalso
    have e : d.size = d.data.toList.length := by show d.data.size = _; simp
    rw [hd] at e
    have e : d.size = 0 := e
    omega
  | cons a l => rfl
theorem mb_eq {d : ByteArray} (h : ¬ 1 ≤ d.size) : d = ⟨#[]⟩ := by
  have e : d.size = d.data.toList.length := by show d.data.size = _; simp
  cases hd : d.data.toList with
  | nil =>
    have e2 : d.data = #[] := Array.toList_inj.1 hd
    cases d; simp at e2; subst e2; rfl
  | cons a l => rw [hd] at e; simp at e; omega
set_option maxRecDepth 100000 in
set_option maxHeartbeats 2000000 in
theorem mbs_loop (a : Option Addr) (c n : Nat) (F : Nat → MbI) (w : World) (hn : n ≤ 60) (hF : MbLe F n) (hr : 0 < n → ∃ g, a = some ⟨g, 0, none⟩ ∧ MbRow w g n F) :
    Calls Tryd.prog 62 #[.slice a n c] w fun e w' => e = .returned (.bool (mbB F n)) ∧ Below w.heap.size w w' := by
  have HPL : Hid (∀ w, (0 < n → ∃ g, a = some ⟨g, 0, none⟩ ∧ MbRow w g n F) → Calls Tryd.prog 91 #[.slice a n c] w fun e w' => e = .returned (.map (some w.heap.size)) ∧ MW F n w w') := fun w h => places_any _ n F w hF ⟨_, _, rfl, h⟩
  have hnI : ¬ (60 : Int) < (n : Int) := by omega
  have HF := hidM hF
  have HR : Hid (0 < n → ∃ g, a = some ⟨g, 0, none⟩ ∧ MbRow w g n F) := hr
  clear hr hF
  go_enter Tryd.func62, Tryd.ntmps62
  go_wp2_with fail
  go_loopw [3, 11] (fun u x wr => ∃ i : Nat, i ≤ n ∧ x = .int .i64 (i : Int) ∧ u = .int .i64 ((mbSum F i : Nat) : Int) ∧ Hid (∀ j, j < i → mbN (F j)) ∧ Hid (Below w.heap.size w wr)) (fun _ x _ => n - (intMb x).toNat)
  case atStart => exact ⟨0, by omega, rfl, rfl, fun j hj => absurd hj (by omega), Below.refl _ _⟩
  case round =>
    obtain ⟨i, hi, rfl, rfl, HG, HB⟩ := hrel
    by_cases hlt : i < n
    · have hltI : (i : Int) < (n : Int) := by omega
      obtain ⟨g, rfl, hrow⟩ := HR.out (by omega)
      have hrow2 := hrow.below HB.out hrow.lt
      obtain ⟨q, hq⟩ : ∃ q, q = 2 * i := ⟨_, rfl⟩
      have x0 := hrow2.c0 i hlt
      have x1 := hrow2.c1 i hlt
      rw [← hq] at x0 x1
      have hiq : i * 2 = q := by omega
      have HST : Hid (mbN (F i) → ∀ j, j < i + 1 → mbN (F j)) := fun h j hj => by
        by_cases e : j < i
        · exact HG.out j e
        · obtain rfl : j = i := by omega
          exact h
      have HNO : Hid (¬ mbN (F i) → mbB F n = false) := fun h => mbB_no fun c => h (c.2.1 i hlt)
      have HS : Hid (mbSum F (i + 1) = mbSum F i + (F i).d.size) := rfl
      have hs1 : mbSum F i + (F i).d.size ≤ 1100000 := by
        have h1 := mbSum_mono F (i := i + 1) (n := n) hlt
        have h2 := mbSum_tot F n
        have h3 := HF.out.tot
        have h4 := HS.out
        omega
      obtain ⟨X, hX⟩ : ∃ X, X = mbSum F i := ⟨_, rfl⟩
      rw [← hX] at HS hs1 ⊢
      clear hrow hrow2 hq hX HG
      generalize F i = p at x0 x1 HST HNO HS hs1
      obtain ⟨pa, pd⟩ := p
      unfold mbN at HST HNO
      simp only at x0 x1 HST HNO HS hs1
      have hw : IntKind.i64.wrap ((X : Int) + (pd.size : Int)) = ((X + pd.size : Nat) : Int) := by rw [IntKind.wrap_i64]; omega
      have HB1 := hidM (HB.out.alloc HB.out.size (.cells #[.string pa, .string pd] 46))
      clear HB
      by_cases h1 : 1 ≤ pa.size
      · have he := mb_ne h1
        by_cases h2 : pa.size ≤ 120
        · have h2I : ¬ (120 : Int) < (pa.size : Int) := by omega
          have HST2 := hidM (HST.out ⟨h1, h2⟩)
          clear h1 h2 HST HNO hs1
          go_wp2_with fail
          go_roundw
          case rel => exact ⟨i + 1, by omega, by go_num, by rw [HS.out]; exact congrArg (Value.int .i64) (by omega), HST2, HB1⟩
          case measure => simp [intMb]; omega
        · have h2I : (120 : Int) < (pa.size : Int) := by omega
          have HNN := hidM (HNO.out (fun c => h2 c.2))
          clear h1 h2 HST HNO hs1
          go_wp2_with fail
          go_ret
          exact ⟨by rw [HNN.out]; rfl, HB1.out⟩
      · have HNN := hidM (HNO.out (fun c => h1 c.1))
        obtain rfl := mb_eq h1
        clear h1 HST HNO hs1
        go_wp2_with fail
        go_ret
        exact ⟨by rw [HNN.out]; rfl, HB1.out⟩
    · obtain rfl : i = n := by omega
      have HRR : Hid (0 < i → ∃ g, a = some ⟨g, 0, none⟩ ∧ MbRow wr g i F) := fun h0 => by
        obtain ⟨g, h1, h2⟩ := HR.out h0
        exact ⟨g, h1, h2.below HB.out h2.lt⟩
      have HY : Hid (mbSum F i ≤ 4000 → mbU F i → mbB F i = true) := fun h1 h2 => mbB_yes ⟨hn, HG.out, h1, h2⟩
      have HN1 : Hid (¬ mbSum F i ≤ 4000 → mbB F i = false) := fun h => mbB_no fun c => h c.2.2.1
      have HN2 : Hid (¬ mbU F i → mbB F i = false) := fun h => mbB_no fun c => h c.2.2.2
      have HSY : Hid (mbU F i → Maps.size (mbD F i) = i) := fun h => mbD_size_yes i h
      have HSN : Hid (¬ mbU F i → Maps.size (mbD F i) < i) := fun h => mbD_size_no i h
      generalize mbSum F i = X at HY HN1 ⊢
      clear HG HF
      by_cases h4 : X ≤ 4000
      · have h4I : (X : Int) ≤ 4000 := by omega
        by_cases hu : mbU F i
        · have HA := hidM (HY.out h4 hu)
          have hsz := HSY.out hu
          clear HY HN1 HN2 HSY HSN h4 hu
          go_wp2_with fail
          refine (HPL.out _ HRR.out).mono ?_
          rintro e w3 ⟨rfl, hm⟩
          have HM := hidM hm
          have hlen : ∀ ty, (Builtin.len_ #[111] ty #[.map (some wr.heap.size)]).run Tryd.prog w3 = .ok (.int .i64 (i : Int)) w3 := fun ty => by
            have h := hm.own.len Tryd.underlying111 ty
            rw [hsz] at h
            exact h
          clear hm hsz
          go_wp2_with fail
          go_ret
          exact ⟨by rw [HA.out]; first | rfl | simp, blMb HB.out HM.out.below HB.out.size⟩
        · have HA := hidM (HN2.out hu)
          have hsz := HSN.out hu
          obtain ⟨Y, hY⟩ : ∃ Y, Y = Maps.size (mbD F i) := ⟨_, rfl⟩
          clear HY HN1 HN2 HSY HSN h4 hu
          go_wp2_with fail
          refine (HPL.out _ HRR.out).mono ?_
          rintro e w3 ⟨rfl, hm⟩
          have HM := hidM hm
          have hlen : ∀ ty, (Builtin.len_ #[111] ty #[.map (some wr.heap.size)]).run Tryd.prog w3 = .ok (.int .i64 (Y : Int)) w3 := fun ty => by
            have h := hm.own.len Tryd.underlying111 ty
            rw [← hY] at h
            exact h
          rw [← hY] at hsz
          have hyI : ((Y : Int) == (i : Int)) = false := beq_eq_false_iff_ne.2 (by omega)
          clear hm hY hsz
          go_wp2_with fail
          go_ret
          exact ⟨by rw [HA.out]; first | rfl | simp, blMb HB.out HM.out.below HB.out.size⟩
      · have h4I : ¬ (X : Int) ≤ 4000 := by omega
        have HA := hidM (HN1.out h4)
        clear HY HN1 HN2 HSY HSN h4
        go_wp2_with fail
        go_ret
        exact ⟨by rw [HA.out]; first | rfl | simp; omega, HB.out⟩
set_option maxRecDepth 100000 in
theorem mbs_bad (a : Option Addr) (c n : Nat) (F : Nat → MbI) (w : World) (h : ¬ n ≤ 60) :
    Calls Tryd.prog 62 #[.slice a n c] w fun e w' => e = .returned (.bool (mbB F n)) ∧ Below w.heap.size w w' := by
  rw [mbB_no fun c => h c.1]
  have h3I : (60 : Int) < (n : Int) := by omega
  clear h
  go_enter Tryd.func62, Tryd.ntmps62
  go_wp2_with fail
  go_ret
  exact ⟨rfl, Below.refl _ _⟩
theorem mbs_any (v : Value) (n : Nat) (F : Nat → MbI) (w : World) (hF : MbLe F n) (h : MbArg w v n F) :
    Calls Tryd.prog 62 #[v] w fun e w' => e = .returned (.bool (mbB F n)) ∧ Below w.heap.size w w' := by
  obtain ⟨a, c, rfl, hr⟩ := h
  by_cases h : n ≤ 60
  · exact mbs_loop a c n F w h hF hr
  · exact mbs_bad a c n F w h
end Go.Proofs.YtfegoldjejlcaaaDoor
