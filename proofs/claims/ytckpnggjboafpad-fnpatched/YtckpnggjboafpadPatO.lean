/-
  What pieces make that begin within a row: the code's; and what a part of the pieces makes, and the rest.
-/
import Derived.Test.YtckpnggjboafpadPatC
namespace Go.Proofs.Ytckpnggjboafpad
open Go.RowKit
set_option linter.unusedVariables false
set_option linter.unusedSimpArgs false
/-- pieces in memory, from any place of a row -/
structure PcRowO (w : World) (g off n : Nat) (F : Nat → PcI) : Prop where
  lt : g < w.heap.size
  c0 : ∀ i, i < n → w.cell? ⟨g, off + i * 3, none⟩ = some (.int .i64 (F i).f)
  c1 : ∀ i, i < n → w.cell? ⟨g, off + i * 3 + 1, none⟩ = some (.int .i64 (F i).l)
  c2 : ∀ i, i < n → w.cell? ⟨g, off + i * 3 + 2, none⟩ = some (.string (F i).d)
theorem PcRowO.below {w w' : World} {g off n B : Nat} {F : Nat → PcI} (h : PcRowO w g off n F) (hb : Below B w w') (hg : g < B) : PcRowO w' g off n F :=
  ⟨Nat.lt_of_lt_of_le h.lt hb.size, fun i hi => (hb.cell (p := ⟨g, off + i * 3, none⟩) hg).trans (h.c0 i hi), fun i hi => (hb.cell (p := ⟨g, off + i * 3 + 1, none⟩) hg).trans (h.c1 i hi), fun i hi => (hb.cell (p := ⟨g, off + i * 3 + 2, none⟩) hg).trans (h.c2 i hi)⟩
def PcArgO (w : World) (v : Value) (n : Nat) (F : Nat → PcI) : Prop := ∃ a c, v = .slice a n c ∧ (0 < n → ∃ g off, a = some ⟨g, off, none⟩ ∧ PcRowO w g off n F)
theorem PcRow.at {w : World} {g n k m : Nat} {F : Nat → PcI} (h : PcRow w g n F) (hk : k + m ≤ n) : PcRowO w g (k * 3) m (fun i => F (k + i)) := by
  refine ⟨h.lt, fun i hi => ?_, fun i hi => ?_, fun i hi => ?_⟩
  · have := h.c0 (k + i) (by omega)
    rw [show k * 3 + i * 3 = 3 * (k + i) by omega]; exact this
  · have := h.c1 (k + i) (by omega)
    rw [show k * 3 + i * 3 + 1 = 3 * (k + i) + 1 by omega]; exact this
  · have := h.c2 (k + i) (by omega)
    rw [show k * 3 + i * 3 + 2 = 3 * (k + i) + 2 by omega]; exact this
theorem pcSum_app (F : Nat → PcI) (k m : Nat) : pcSum F (k + m) = pcSum F k + pcSum (fun i => F (k + i)) m := by
  induction m with
  | zero => show pcSum F k = pcSum F k + 0; omega
  | succ m ih =>
    show pcSum F (k + m) + pcSz (F (k + m)) = pcSum F k + (pcSum (fun i => F (k + i)) m + pcSz (F (k + m)))
    rw [ih]; omega
theorem patB_app (old : ByteArray) (F : Nat → PcI) (k m : Nat) : patB old F (k + m) = patB old F k ++ patB old (fun i => F (k + i)) m := by
  induction m with
  | zero =>
    show patB old F k = patB old F k ++ ⟨#[]⟩
    apply ByteArray.ext
    rw [ByteArray.data_append]
    simp
  | succ m ih =>
    show patB old F (k + m) ++ pcTx old (F (k + m)) = patB old F k ++ (patB old (fun i => F (k + i)) m ++ pcTx old (F (k + m)))
    rw [ih, ByteArray.append_assoc]
theorem pcR_left {F : Nat → PcI} {n k : Nat} {old : Int} (h : pcR F n old) (hk : k ≤ n) : pcR F k old :=
  ⟨h.1, h.2.1, Nat.le_trans hk h.2.2.1, fun i hi => h.2.2.2.1 i (by omega), Int.le_trans (pcSum_mono hk h.2.2.2.1) h.2.2.2.2⟩
theorem pcR_right {F : Nat → PcI} {k m : Nat} {old : Int} (h : pcR F (k + m) old) : pcR (fun i => F (k + i)) m old := by
  refine ⟨h.1, h.2.1, by have := h.2.2.1; omega, fun i hi => h.2.2.2.1 (k + i) (by omega), ?_⟩
  have h1 := pcSum_app F k m
  have h2 : pcSum F 0 ≤ pcSum F k := pcSum_mono (Nat.zero_le _) fun j hj => h.2.2.2.1 j (by omega)
  have h3 : pcSum F 0 = 0 := rfl
  have h4 := h.2.2.2.2
  omega
set_option maxRecDepth 100000 in
set_option maxHeartbeats 2000000 in
theorem madeO_any (v : Value) (n : Nat) (F : Nat → PcI) (old : Int) (w : World) (hn : n ≤ 500) (ho : old ≤ 4000) (hd : ∀ i, i < n → (F i).d.size ≤ 1048576) (hg : ∀ j, j < n → pcP (F j) old) (h : PcArgO w v n F) :
    Calls Try.prog 68 #[v] w fun e w' => e = .returned (.int .i64 (pcSum F n)) ∧ Below w.heap.size w w' := by
  obtain ⟨a, c, rfl, hr⟩ := h
  have hnI : (n : Int) ≤ 500 := by omega
  have HZ : Hid (∀ p w, Calls Try.prog 104 #[pcV p.f p.l p.d] w fun e w' => e = .returned (.int .i64 (pcSz p)) ∧ Below w.heap.size w w') := fun p w => size_any p w
  unfold pcV at HZ
  have HR : Hid (0 < n → ∃ g off, a = some ⟨g, off, none⟩ ∧ PcRowO w g off n F) := hr
  have HD : Hid ((∀ i, i < n → (F i).d.size ≤ 1048576) ∧ (∀ j, j < n → pcP (F j) old) ∧ old ≤ 4000) := ⟨hd, hg, ho⟩
  clear hr hd hg ho
  go_enter Try.func68, Try.ntmps68
  go_wp2_with fail
  go_loopw [3, 8] (fun u v wr => ∃ (i : Nat), i ≤ n ∧ v = .int .i64 (i : Int) ∧ u = .int .i64 (pcSum F i) ∧ Hid (Below w.heap.size w wr)) (fun _ v _ => n - (intN v).toNat)
  case atStart => exact ⟨0, by omega, rfl, rfl, Below.refl _ _⟩
  case round =>
    obtain ⟨i, hi, rfl, rfl, HB⟩ := hrel
    by_cases hlt : i < n
    · have hltI : (i : Int) < (n : Int) := by omega
      obtain ⟨g, off, rfl, hrow⟩ := HR.out (by omega)
      have hrow2 := hrow.below HB.out hrow.lt
      have x0 := hrow2.c0 i hlt
      have x1 := hrow2.c1 i hlt
      have x2 := hrow2.c2 i hlt
      have b1 := pcSum_le HD.out.2.2 (fun j hj => HD.out.1 j (by omega)) (fun j hj => HD.out.2.1 j (by omega)) (n := i)
      have b2 := pcP_pos (HD.out.2.1 i hlt)
      have b3 := pcP_le (HD.out.2.1 i hlt) HD.out.2.2 (HD.out.1 i hlt)
      have HSS : Hid (pcSum F (i + 1) = pcSum F i + pcSz (F i)) := rfl
      obtain ⟨X, hX⟩ : ∃ X, X = pcSum F i := ⟨_, rfl⟩
      obtain ⟨Y, hY⟩ : ∃ Y, Y = pcSz (F i) := ⟨_, rfl⟩
      rw [← hX] at b1 HSS ⊢
      rw [← hY] at b2 b3 HSS
      have hw : IntKind.i64.wrap (X + Y) = X + Y := by rw [IntKind.wrap_i64]; omega
      have HZ2 : Hid (∀ w, Calls Try.prog 104 #[.agg #[.int .i64 (F i).f, .int .i64 (F i).l, .string (F i).d]] w fun e w' => e = .returned (.int .i64 Y) ∧ Below w.heap.size w w') := by rw [hY]; exact fun w => HZ.out (F i) w
      clear hrow hrow2 hX hY b1 b2 b3
      generalize F i = p at x0 x1 x2 HZ2 HSS
      obtain ⟨f, l, d⟩ := p
      simp only at x0 x1 x2 HZ2
      have hb1 : Below w.heap.size w (wr.alloc (.cells #[.int .i64 f, .int .i64 l, .string d] 54)) := HB.out.alloc HB.out.size _
      have HB1 : Hid _ := hb1
      clear hb1
      go_wp2_with fail
      refine (HZ2.out _).mono ?_
      rintro e w3 ⟨rfl, hb3⟩
      have HB3 : Hid (Below w.heap.size w w3) := bl3 HB1.out hb3 HB1.out.size
      clear hb3 x0 x1 x2 HB
      go_wp2_with fail
      go_roundw
      case rel => exact ⟨i + 1, by omega, by go_num, by rw [HSS.out], HB3⟩
      case measure => simp [intN]; omega
    · obtain rfl : i = n := by omega
      go_wp2_with fail
      go_ret
      exact ⟨rfl, HB.out⟩
set_option maxRecDepth 100000 in
set_option maxHeartbeats 2000000 in
theorem pcsO_loop (a : Option Addr) (c n : Nat) (F : Nat → PcI) (old : Int) (w : World) (ho : 0 ≤ old) (ho2 : old ≤ 4000) (hn : n ≤ 500) (hd : ∀ i, i < n → (F i).d.size ≤ 1048576) (hr : 0 < n → ∃ g off, a = some ⟨g, off, none⟩ ∧ PcRowO w g off n F) :
    Calls Try.prog 32 #[.int .i64 old, .slice a n c] w fun e w' => e = .returned (.bool (pcB F n old)) ∧ Below w.heap.size w w' := by
  have hnI : (n : Int) ≤ 500 := by omega
  have hnI2 : ¬ (500 : Int) < (n : Int) := by omega
  have hoI : ¬ old < 0 := by omega
  have hoI2 : ¬ 4000 < old := by omega
  have HY : Hid (∀ p w, pcP p old → Calls Try.prog 67 #[pcV p.f p.l p.d, .int .i64 old] w fun e w' => e = .returned (.bool true) ∧ Below w.heap.size w w') := fun p w h => okFor_yes p old w h ho2
  have HN : Hid (∀ p w, ¬ pcP p old → Calls Try.prog 67 #[pcV p.f p.l p.d, .int .i64 old] w fun e w' => e = .returned (.bool false) ∧ Below w.heap.size w w') := fun p w h => okFor_no p old w h ho2
  unfold pcV at HY HN
  have HR : Hid (0 < n → ∃ g off, a = some ⟨g, off, none⟩ ∧ PcRowO w g off n F) := hr
  have HD : Hid (∀ i, i < n → (F i).d.size ≤ 1048576) := hd
  have HO : Hid (0 ≤ old ∧ old ≤ 4000 ∧ n ≤ 500) := ⟨ho, ho2, hn⟩
  have HM : Hid (∀ w', Below w.heap.size w w' → (∀ j, j < n → pcP (F j) old) → Calls Try.prog 68 #[.slice a n c] w' fun e w'' => e = .returned (.int .i64 (pcSum F n)) ∧ Below w'.heap.size w' w'') := fun w' hb hg =>
    madeO_any _ n F old w' hn ho2 hd hg ⟨a, c, rfl, fun h0 => by obtain ⟨g, off, h1, h2⟩ := hr h0; exact ⟨g, off, h1, h2.below hb h2.lt⟩⟩
  clear hr hd
  go_enter Try.func32, Try.ntmps32
  go_wp2_with fail
  go_loopw [20] (fun v wr => ∃ (i : Nat), i ≤ n ∧ v = .int .i64 (i : Int) ∧ Hid (∀ j, j < i → pcP (F j) old) ∧ Hid (Below w.heap.size w wr)) (fun v _ => n - (intN v).toNat)
  case atStart => exact ⟨0, by omega, rfl, fun j hj => absurd hj (by omega), Below.refl _ _⟩
  case round =>
    obtain ⟨i, hi, rfl, HG, HB⟩ := hrel
    by_cases hlt : i < n
    · have hltI : (i : Int) < (n : Int) := by omega
      obtain ⟨g, off, rfl, hrow⟩ := HR.out (by omega)
      have hrow2 := hrow.below HB.out hrow.lt
      have x0 := hrow2.c0 i hlt
      have x1 := hrow2.c1 i hlt
      have x2 := hrow2.c2 i hlt
      have HST : Hid (pcP (F i) old → ∀ j, j < i + 1 → pcP (F j) old) := fun h j hj => by
        by_cases e : j < i
        · exact HG.out j e
        · obtain rfl : j = i := by omega
          exact h
      have HNO : Hid (¬ pcP (F i) old → pcB F n old = false) := fun h => pcB_no fun c => h (c.2.2.2.1 i hlt)
      have HLT : Hid (i < n) := hlt
      clear hrow hrow2 HG
      generalize F i = p at x0 x1 x2 HST HNO
      have HY2 := HY.out p
      have HN2 := HN.out p
      have HY2 : Hid (∀ w, pcP p old → _) := HY2
      have HN2 : Hid (∀ w, ¬ pcP p old → _) := HN2
      have HB1 : Hid (Below w.heap.size w (wr.alloc (.cells #[.int .i64 p.f, .int .i64 p.l, .string p.d] 54))) := HB.out.alloc HB.out.size _
      by_cases hp : pcP p old
      · have HST2 : Hid _ := HST.out hp
        have HP : Hid (pcP p old) := hp
        clear hp HST HNO HN2
        go_wp2_with fail
        refine (HY2.out _ HP.out).mono ?_
        rintro e w3 ⟨rfl, hb3⟩
        have HB3 : Hid (Below w.heap.size w w3) := bl3 HB1.out hb3 HB1.out.size
        clear hb3 x0 x1 x2 HB HB1 HY2 HP
        go_wp2_with fail
        go_roundw
        case rel => exact ⟨i + 1, by omega, by go_num, HST2, HB3⟩
        case measure => simp [intN]; omega
      · have HNN : Hid (pcB F n old = false) := HNO.out hp
        have HP : Hid (¬ pcP p old) := hp
        clear hp HST HNO HY2
        go_wp2_with fail
        refine (HN2.out _ HP.out).mono ?_
        rintro e w3 ⟨rfl, hb3⟩
        have HB3 : Hid (Below w.heap.size w w3) := bl3 HB1.out hb3 HB1.out.size
        clear hb3 x0 x1 x2 HB HB1 HP HN2
        go_wp2_with fail
        go_ret
        exact ⟨by rw [HNN.out]; rfl, HB3.out⟩
    · obtain rfl : i = n := by omega
      have HM2 : Hid (Calls Try.prog 68 #[.slice a i c] wr fun e w'' => e = .returned (.int .i64 (pcSum F i)) ∧ Below wr.heap.size wr w'') := HM.out _ HB.out HG.out
      clear HM HY HN HR
      by_cases h4 : pcSum F i ≤ 4000
      · have HQ : Hid (pcB F i old = true) := pcB_yes ⟨HO.out.1, HO.out.2.1, HO.out.2.2, HG.out, h4⟩
        clear HG
        generalize pcSum F i = X at h4 HM2
        go_wp2_with fail
        refine HM2.out.mono ?_
        rintro e w3 ⟨rfl, hb3⟩
        have HB3 : Hid (Below w.heap.size w w3) := bl3 HB.out hb3 HB.out.size
        clear hb3
        go_wp2_with fail
        go_ret
        exact ⟨by rw [HQ.out]; rfl, HB3.out⟩
      · have HQ : Hid (pcB F i old = false) := pcB_no fun c => h4 c.2.2.2.2
        clear HG
        generalize pcSum F i = X at h4 HM2
        go_wp2_with fail
        refine HM2.out.mono ?_
        rintro e w3 ⟨rfl, hb3⟩
        have HB3 : Hid (Below w.heap.size w w3) := bl3 HB.out hb3 HB.out.size
        clear hb3
        go_wp2_with fail
        go_ret
        have e : decide (X ≤ 4000) = false := decide_eq_false (by omega)
        exact ⟨by rw [HQ.out, ← e]; rfl, HB3.out⟩
set_option linter.unusedVariables false
set_option linter.unusedSimpArgs false
set_option maxRecDepth 100000 in
set_option maxHeartbeats 2000000 in
theorem patO_yes (old : ByteArray) (a : Option Addr) (c n : Nat) (F : Nat → PcI) (w : World) (hF : PcLe F n) (hok : pcR F n (old.size : Int)) (hr : 0 < n → ∃ g off, a = some ⟨g, off, none⟩ ∧ PcRowO w g off n F) :
    Calls Try.prog 31 #[.string old, .slice a n c] w fun e w' => e = .returned (.tuple #[.string (patB old F n), .bool true]) ∧ Below w.heap.size w w' := by
  have hnI : (n : Int) ≤ 500 := by have := hok.2.2.1; omega
  have HK : Hid (∀ w, PcArgO w (.slice a n c) n F → Calls Try.prog 32 #[.int .i64 (old.size : Int), .slice a n c] w fun e w' => e = .returned (.bool true) ∧ Below w.heap.size w w') := fun w h => by
    obtain ⟨a2, c2, e2, hr2⟩ := h
    cases e2
    have h2 := pcsO_loop a c n F (old.size : Int) w hok.1 hok.2.1 hok.2.2.1 hF.d hr2
    rw [pcB_yes hok] at h2
    exact h2
  have HR : Hid (∀ w', Below w.heap.size w w' → 0 < n → ∃ g off, a = some ⟨g, off, none⟩ ∧ PcRowO w' g off n F) := fun w' hb h0 => by
    obtain ⟨g, off, h1, h2⟩ := hr h0
    exact ⟨g, off, h1, h2.below hb h2.lt⟩
  have HA : Hid (PcArgO w (.slice a n c) n F) := ⟨a, c, rfl, hr⟩
  have HO : Hid (pcR F n (old.size : Int)) := hok
  clear hr hok hF
  go_enter Try.func31, Try.ntmps31
  go_wp2_with fail
  refine (HK.out _ HA.out).mono ?_
  rintro e w1 ⟨rfl, hb1⟩
  have HB1 : Hid (Below w.heap.size w w1) := hb1
  have HBL : Hid (BldIs w1.heap.size w1.heap.size ⟨#[]⟩ (w1.alloc (.cells #[.pointer none, .slice none 0 0] 114))) := bld_new w1
  have HB2 : Hid (Below w.heap.size w (w1.alloc (.cells #[.pointer none, .slice none 0 0] 114))) := hb1.alloc hb1.size _
  clear hb1
  go_wp2_with fail
  go_loopw [16] (fun v wr => ∃ (i : Nat), i ≤ n ∧ v = .int .i64 (i : Int) ∧ w1.heap.size ≤ wr.heap.size ∧ Hid (BldIs w1.heap.size w1.heap.size (patB old F i) wr) ∧ Hid (Below w.heap.size w wr)) (fun v _ => n - (intN v).toNat)
  case atStart => exact ⟨0, by omega, rfl, by simp, HBL, HB2⟩
  case round =>
    clear HBL HB2
    obtain ⟨i, hi, rfl, hws, HBL, HB⟩ := hrel
    by_cases hlt : i < n
    · have hltI : (i : Int) < (n : Int) := by omega
      obtain ⟨g, off, rfl, hrow⟩ := HR.out _ HB.out (by omega)
      have x0 := hrow.c0 i hlt
      have x1 := hrow.c1 i hlt
      have x2 := hrow.c2 i hlt
      have hp := HO.out.2.2.2.1 i hlt
      have hle := patB_le HO.out (i := i) (by omega)
      have hle2 := patB_le HO.out (i := i + 1) (by omega)
      have HST : Hid (patB old F (i + 1) = patB old F i ++ pcTx old (F i)) := rfl
      have hb0 : ∀ X, Below w.heap.size w (wr.alloc X) := fun X => HB.out.alloc HB.out.size _
      have HB0 : Hid _ := hb0
      have HBL1 : Hid (∀ X, BldIs w1.heap.size w1.heap.size (patB old F i) (wr.alloc X)) := fun X => HBL.out.alloc X
      have hold := HO.out.2.1
      clear hrow hb0 HBL HB
      generalize F i = p at x0 x1 x2 hp HST
      rw [HST.out] at hle2
      generalize patB old F i = acc at hle hle2 HST HBL1
      obtain ⟨f, l, d⟩ := p
      simp only at x0 x1 x2
      rcases hp with ⟨h, h1, h2, h3, h4⟩ | ⟨h, h1, h2⟩
      · simp only at h h1 h2 h3 h4
        subst h
        rw [pcTx_no rfl] at hle2 HST
        have hwo : IntKind.i64.wrap (f + l) = f + l := by rw [IntKind.wrap_i64]; omega
        obtain ⟨f2, rfl⟩ : ∃ f2 : Nat, f = (f2 : Int) := ⟨f.toNat, by omega⟩
        obtain ⟨l2, rfl⟩ : ∃ l2 : Nat, l = (l2 : Int) := ⟨l.toNat, by omega⟩
        have e1 : (f2 : Int) + (l2 : Int) = ((f2 + l2 : Nat) : Int) := by omega
        simp only [e1, Int.toNat_natCast] at hle2 HST hwo
        have hs1 : f2 ≤ f2 + l2 := by omega
        have hs2 : f2 + l2 ≤ old.size := by omega
        obtain ⟨z, hz⟩ : ∃ z, z = f2 + l2 := ⟨_, rfl⟩
        rw [← hz] at e1 hle2 HST hwo hs1 hs2
        have hs1I : (f2 : Int) ≤ (z : Int) := by omega
        have hs2I : (z : Int) ≤ (old.size : Int) := by omega
        clear hz h1 h2 h3 h4
        go_wp2_with fail
        refine (bld_add w1.heap.size w1.heap.size acc _ _ (HBL1.out _) (by rw [← ByteArray.size_append]; omega) (by simp; omega)).mono ?_
        rintro e w3 ⟨rfl, hbl3, hb3⟩
        have HB3 : Hid (Below w.heap.size w w3) := (HB0.out _).trans (hb3.mono HB1.out.size)
        have HBL3 : Hid (BldIs w1.heap.size w1.heap.size (patB old F (i + 1)) w3) := by rw [HST.out]; exact hbl3
        have hws3 : w1.heap.size ≤ w3.heap.size := by have := hb3.size; simp at this; omega
        clear hb3 hbl3 HST hle hle2 x0 x1 x2 HB0 HBL1
        go_wp2_with fail
        go_roundw
        case rel => exact ⟨i + 1, by omega, by go_num, hws3, HBL3, HB3⟩
        case measure => simp [intN]; omega
      · simp only at h h1 h2
        subst h1 h2
        rw [pcTx_yes h] at hle2 HST
        have he := d_ne h
        simp only at he hle2 HST
        clear h
        go_wp2_with fail
        refine (bld_add w1.heap.size w1.heap.size acc _ _ (HBL1.out _) (by rw [← ByteArray.size_append]; omega) (by simp; omega)).mono ?_
        rintro e w3 ⟨rfl, hbl3, hb3⟩
        have HB3 : Hid (Below w.heap.size w w3) := (HB0.out _).trans (hb3.mono HB1.out.size)
        have HBL3 : Hid (BldIs w1.heap.size w1.heap.size (patB old F (i + 1)) w3) := by rw [HST.out]; exact hbl3
        have hws3 : w1.heap.size ≤ w3.heap.size := by have := hb3.size; simp at this; omega
        clear hb3 hbl3 HST hle hle2 x0 x1 x2 HB0 HBL1
        go_wp2_with fail
        go_roundw
        case rel => exact ⟨i + 1, by omega, by go_num, hws3, HBL3, HB3⟩
        case measure => simp [intN]; omega
    · obtain rfl : i = n := by omega
      go_wp2_with fail
      refine (bld_tell w1.heap.size w1.heap.size (patB old F i) _ HBL.out hws).mono ?_
      rintro e w3 ⟨rfl, hb3⟩
      have HB3 : Hid (Below w.heap.size w w3) := HB.out.trans (hb3.mono HB1.out.size)
      clear hb3
      go_wp2_with fail
      go_ret2
      exact ⟨rfl, HB3.out⟩
end Go.Proofs.Ytckpnggjboafpad
