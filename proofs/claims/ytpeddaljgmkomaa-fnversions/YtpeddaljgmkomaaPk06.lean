/-
  Several texts of this seat as one: PcOk, PcsC, RdM.
-/
import Derived.Test.YtpeddaljgmkomaaPk01
import Derived.Laws.Strings
import Derived.Test.YtpeddaljgmkomaaPk05
import Derived.BigQuiet

/-!   How much a piece makes, and whether it is right: the code's and the specification's. -/
namespace Go.Proofs.Ytpeddaljgmkomaa
open Go.RowKit
set_option linter.unusedVariables false
set_option linter.unusedSimpArgs false
theorem d_ne {d : ByteArray} (h : d ≠ ⟨#[]⟩) : d.toList.isEmpty = false := by
  rw [ByteArray.toList_eq]
  cases hd : d.data.toList with
  | nil =>
    exfalso; apply h
    have e : d.data = #[] := Array.toList_inj.1 hd
    cases d; simp at e; subst e; rfl
  | cons a l => rfl
theorem d_pos {d : ByteArray} (h : d ≠ ⟨#[]⟩) : 1 ≤ d.size := by
  have h1 := d_ne h
  rw [ByteArray.toList_eq] at h1
  have h2 : d.size = d.data.toList.length := by show d.data.size = _; simp
  cases hd : d.data.toList with
  | nil => rw [hd] at h1; cases h1
  | cons a l => rw [h2, hd]; simp
noncomputable def pcSz (p : PcI) : Int := open Classical in if p.d = ⟨#[]⟩ then p.l else (p.d.size : Int)
theorem pcSz_no {p : PcI} (h : p.d = ⟨#[]⟩) : pcSz p = p.l := by unfold pcSz; rw [if_pos h]
theorem pcSz_yes {p : PcI} (h : p.d ≠ ⟨#[]⟩) : pcSz p = (p.d.size : Int) := by unfold pcSz; rw [if_neg h]
def pcP (p : PcI) (old : Int) : Prop := (p.d = ⟨#[]⟩ ∧ 1 ≤ p.l ∧ p.l ≤ old ∧ 0 ≤ p.f ∧ p.f ≤ old - p.l) ∨ (p.d ≠ ⟨#[]⟩ ∧ p.f = 0 ∧ p.l = 0)
noncomputable def pcSum (F : Nat → PcI) : Nat → Int
  | 0 => 0
  | i + 1 => pcSum F i + pcSz (F i)
theorem pcP_pos {p : PcI} {old : Int} (h : pcP p old) : 1 ≤ pcSz p := by
  rcases h with ⟨h, h1, _⟩ | ⟨h, _⟩
  · rw [pcSz_no h]; exact h1
  · rw [pcSz_yes h]; have := d_pos h; omega
theorem pcP_le {p : PcI} {old : Int} (h : pcP p old) (ho : old ≤ 4000) (hd : p.d.size ≤ 1048576) : pcSz p ≤ 1048576 := by
  rcases h with ⟨h, _, h1, _⟩ | ⟨h, _⟩
  · rw [pcSz_no h]; omega
  · rw [pcSz_yes h]; omega
theorem pcSum_mono {F : Nat → PcI} {old : Int} {i n : Nat} (h : i ≤ n) (hg : ∀ j, j < n → pcP (F j) old) : pcSum F i ≤ pcSum F n := by
  induction n with
  | zero =>
    obtain rfl : i = 0 := by omega
    exact Int.le_refl _
  | succ n ih =>
    by_cases e : i = n + 1
    · subst e; exact Int.le_refl _
    · have h1 := ih (by omega) (fun j hj => hg j (by omega))
      have h2 := pcP_pos (hg n (by omega))
      show _ ≤ pcSum F n + pcSz (F n)
      omega
theorem pcSum_le {F : Nat → PcI} {old : Int} {n : Nat} (ho : old ≤ 4000) (hd : ∀ i, i < n → (F i).d.size ≤ 1048576) (hg : ∀ j, j < n → pcP (F j) old) : 0 ≤ pcSum F n ∧ pcSum F n ≤ n * 1048576 := by
  induction n with
  | zero => exact ⟨Int.le_refl _, Int.le_refl _⟩
  | succ n ih =>
    have h1 := ih (fun i hi => hd i (by omega)) (fun j hj => hg j (by omega))
    have h2 := pcP_pos (hg n (by omega))
    have h3 := pcP_le (hg n (by omega)) ho (hd n (by omega))
    show 0 ≤ pcSum F n + pcSz (F n) ∧ pcSum F n + pcSz (F n) ≤ _
    omega
/-- right pieces for an old text of so many bytes -/
def pcR (F : Nat → PcI) (n : Nat) (old : Int) : Prop := 0 ≤ old ∧ old ≤ 4000 ∧ n ≤ 500 ∧ (∀ i, i < n → pcP (F i) old) ∧ pcSum F n ≤ 4000
set_option maxRecDepth 100000 in
theorem size_any (p : PcI) (w : World) : Calls Try.prog 83 #[pcV p.f p.l p.d] w fun e w' => e = .returned (.int .i64 (pcSz p)) ∧ Below w.heap.size w w' := by
  obtain ⟨f, l, d⟩ := p
  by_cases h : d = ⟨#[]⟩
  · rw [pcSz_no h]
    subst h
    unfold pcV
    go_enter Try.func83, Try.ntmps83
    go_wp2_with fail
    go_ret
    exact ⟨rfl, (Below.refl _ _).alloc (Nat.le_refl _) _⟩
  · rw [pcSz_yes h]
    unfold pcV
    have h1 := d_ne h
    clear h
    go_enter Try.func83, Try.ntmps83
    go_wp2_with fail
    go_ret
    exact ⟨rfl, (Below.refl _ _).alloc (Nat.le_refl _) _⟩
set_option maxRecDepth 100000 in
theorem slong_any (p : PcI) (w : World) : Calls Try.prog 78 #[pcV p.f p.l p.d] w fun e w' => e = .returned (.int .i64 (pcSz p)) ∧ Below w.heap.size w w' := by
  obtain ⟨f, l, d⟩ := p
  by_cases h : d = ⟨#[]⟩
  · rw [pcSz_no h]
    subst h
    unfold pcV
    go_enter Try.func78, Try.ntmps78
    go_wp2_with fail
    go_ret
    exact ⟨rfl, (Below.refl _ _).alloc (Nat.le_refl _) _⟩
  · rw [pcSz_yes h]
    unfold pcV
    have h1 := d_ne h
    clear h
    go_enter Try.func78, Try.ntmps78
    go_wp2_with fail
    go_ret
    exact ⟨rfl, (Below.refl _ _).alloc (Nat.le_refl _) _⟩
set_option maxRecDepth 100000 in
set_option maxHeartbeats 1000000 in
theorem okFor_yes (p : PcI) (old : Int) (w : World) (h : pcP p old) (ho : old ≤ 4000) : Calls Try.prog 101 #[pcV p.f p.l p.d, .int .i64 old] w fun e w' => e = .returned (.bool true) ∧ Below w.heap.size w w' := by
  obtain ⟨f, l, d⟩ := p
  rcases h with ⟨h, h1, h2, h3, h4⟩ | ⟨h, h1, h2⟩
  · simp only at h h1 h2 h3 h4
    subst h
    unfold pcV
    have hw : IntKind.i64.wrap (old - l) = old - l := by rw [IntKind.wrap_i64]; omega
    go_enter Try.func101, Try.ntmps101
    go_wp2_with fail
    go_ret
    exact ⟨rfl, (Below.refl _ _).alloc (Nat.le_refl _) _⟩
  · simp only at h h1 h2
    subst h1 h2
    unfold pcV
    have h1 := d_ne h
    clear h
    go_enter Try.func101, Try.ntmps101
    go_wp2_with fail
    go_ret
    exact ⟨rfl, (Below.refl _ _).alloc (Nat.le_refl _) _⟩
set_option maxRecDepth 100000 in
set_option maxHeartbeats 4000000 in
theorem okFor_no (p : PcI) (old : Int) (w : World) (h : ¬ pcP p old) (ho : old ≤ 4000) : Calls Try.prog 101 #[pcV p.f p.l p.d, .int .i64 old] w fun e w' => e = .returned (.bool false) ∧ Below w.heap.size w w' := by
  obtain ⟨f, l, d⟩ := p
  unfold pcP at h
  simp only at h ⊢
  unfold pcV
  by_cases hd : d = ⟨#[]⟩
  · subst hd
    by_cases c1 : 1 ≤ l
    · by_cases c2 : l ≤ old
      · have hw : IntKind.i64.wrap (old - l) = old - l := by rw [IntKind.wrap_i64]; omega
        by_cases c3 : 0 ≤ f
        · have c4 : ¬ f ≤ old - l := fun c => h (Or.inl ⟨rfl, c1, c2, c3, c⟩)
          clear h
          go_enter Try.func101, Try.ntmps101
          go_wp2_with fail
          go_ret
          exact ⟨rfl, (Below.refl _ _).alloc (Nat.le_refl _) _⟩
        · clear h
          go_enter Try.func101, Try.ntmps101
          go_wp2_with fail
          go_ret
          exact ⟨rfl, (Below.refl _ _).alloc (Nat.le_refl _) _⟩
      · clear h
        go_enter Try.func101, Try.ntmps101
        go_wp2_with fail
        go_ret
        exact ⟨rfl, (Below.refl _ _).alloc (Nat.le_refl _) _⟩
    · clear h
      go_enter Try.func101, Try.ntmps101
      go_wp2_with fail
      go_ret
      exact ⟨rfl, (Below.refl _ _).alloc (Nat.le_refl _) _⟩
  · have h1 := d_ne hd
    by_cases c1 : f = 0
    · by_cases c2 : l = 0
      · exact absurd (Or.inr ⟨hd, c1, c2⟩) h
      · have e2 := beq_eq_false_iff_ne.2 c2
        clear h hd
        go_enter Try.func101, Try.ntmps101
        go_wp2_with fail
        go_ret
        exact ⟨rfl, (Below.refl _ _).alloc (Nat.le_refl _) _⟩
    · have e1 := beq_eq_false_iff_ne.2 c1
      clear h hd
      go_enter Try.func101, Try.ntmps101
      go_wp2_with fail
      go_ret
      exact ⟨rfl, (Below.refl _ _).alloc (Nat.le_refl _) _⟩
set_option maxRecDepth 100000 in
set_option maxHeartbeats 2000000 in
theorem made_any (v : Value) (n : Nat) (F : Nat → PcI) (old : Int) (w : World) (hn : n ≤ 500) (ho : old ≤ 4000) (hd : ∀ i, i < n → (F i).d.size ≤ 1048576) (hg : ∀ j, j < n → pcP (F j) old) (h : PcArg w v n F) :
    Calls Try.prog 81 #[v] w fun e w' => e = .returned (.int .i64 (pcSum F n)) ∧ Below w.heap.size w w' := by
  obtain ⟨a, c, rfl, hr⟩ := h
  have hnI : (n : Int) ≤ 500 := by omega
  have HZ : Hid (∀ p w, Calls Try.prog 83 #[pcV p.f p.l p.d] w fun e w' => e = .returned (.int .i64 (pcSz p)) ∧ Below w.heap.size w w') := fun p w => size_any p w
  unfold pcV at HZ
  have HR : Hid (0 < n → ∃ g, a = some ⟨g, 0, none⟩ ∧ PcRow w g n F) := hr
  have HD : Hid ((∀ i, i < n → (F i).d.size ≤ 1048576) ∧ (∀ j, j < n → pcP (F j) old) ∧ old ≤ 4000) := ⟨hd, hg, ho⟩
  clear hr hd hg ho
  go_enter Try.func81, Try.ntmps81
  go_wp2_with fail
  go_loopw [3, 8] (fun u v wr => ∃ (i : Nat), i ≤ n ∧ v = .int .i64 (i : Int) ∧ u = .int .i64 (pcSum F i) ∧ Hid (Below w.heap.size w wr)) (fun _ v _ => n - (intN v).toNat)
  case atStart => exact ⟨0, by omega, rfl, rfl, Below.refl _ _⟩
  case round =>
    obtain ⟨i, hi, rfl, rfl, HB⟩ := hrel
    by_cases hlt : i < n
    · have hltI : (i : Int) < (n : Int) := by omega
      obtain ⟨g, rfl, hrow⟩ := HR.out (by omega)
      have hrow2 := hrow.below HB.out hrow.lt
      obtain ⟨q, hq⟩ : ∃ q, q = 3 * i := ⟨_, rfl⟩
      have x0 := hrow2.c0 i hlt
      have x1 := hrow2.c1 i hlt
      have x2 := hrow2.c2 i hlt
      rw [← hq] at x0 x1 x2
      have hiq : i * 3 = q := by omega
      have b1 := pcSum_le HD.out.2.2 (fun j hj => HD.out.1 j (by omega)) (fun j hj => HD.out.2.1 j (by omega)) (n := i)
      have b2 := pcP_pos (HD.out.2.1 i hlt)
      have b3 := pcP_le (HD.out.2.1 i hlt) HD.out.2.2 (HD.out.1 i hlt)
      have HSS : Hid (pcSum F (i + 1) = pcSum F i + pcSz (F i)) := rfl
      obtain ⟨X, hX⟩ : ∃ X, X = pcSum F i := ⟨_, rfl⟩
      obtain ⟨Y, hY⟩ : ∃ Y, Y = pcSz (F i) := ⟨_, rfl⟩
      rw [← hX] at b1 HSS ⊢
      rw [← hY] at b2 b3 HSS
      have hw : IntKind.i64.wrap (X + Y) = X + Y := by rw [IntKind.wrap_i64]; omega
      have HZ2 : Hid (∀ w, Calls Try.prog 83 #[.agg #[.int .i64 (F i).f, .int .i64 (F i).l, .string (F i).d]] w fun e w' => e = .returned (.int .i64 Y) ∧ Below w.heap.size w w') := by rw [hY]; exact fun w => HZ.out (F i) w
      clear hrow hrow2 hq hX hY b1 b2 b3
      generalize F i = p at x0 x1 x2 HZ2 HSS
      obtain ⟨f, l, d⟩ := p
      simp only at x0 x1 x2 HZ2
      have hb1 : Below w.heap.size w (wr.alloc (.cells #[.int .i64 f, .int .i64 l, .string d] 89)) := HB.out.alloc HB.out.size _
      have HB1 : Hid _ := hb1
      clear hb1
      go_wp2_with fail
      refine (HZ2.out _).mono ?_
      rintro e w3 ⟨rfl, hb3⟩
      have HB3 : Hid (Below w.heap.size w w3) := bl3 HB1.out hb3 HB1.out.size
      clear hb3 x0 x1 x2 HB
      go_wp2_with fail
      go_roundw
      case rel => exact ⟨i + 1, by omega, by go_num, by rw [HSS.out], HB3⟩
      case measure => simp [intN]; omega
    · obtain rfl : i = n := by omega
      go_wp2_with fail
      go_ret
      exact ⟨rfl, HB.out⟩
end Go.Proofs.Ytpeddaljgmkomaa

/-!   Whether pieces are right: the code's. -/
namespace Go.Proofs.Ytpeddaljgmkomaa
open Go.RowKit
set_option linter.unusedVariables false
set_option linter.unusedSimpArgs false
noncomputable def pcB (F : Nat → PcI) (n : Nat) (old : Int) : Bool := open Classical in decide (pcR F n old)
theorem pcB_yes {F : Nat → PcI} {n : Nat} {old : Int} (h : pcR F n old) : pcB F n old = true := by unfold pcB; simp [h]
theorem pcB_no {F : Nat → PcI} {n : Nat} {old : Int} (h : ¬ pcR F n old) : pcB F n old = false := by unfold pcB; simp [h]
/-- what the law's measure lets in -/
structure PcLe (F : Nat → PcI) (n : Nat) : Prop where
  len : n ≤ 1048576
  d : ∀ i, i < n → (F i).d.size ≤ 1048576
set_option maxRecDepth 100000 in
set_option maxHeartbeats 2000000 in
theorem pcs_loop (a : Option Addr) (c n : Nat) (F : Nat → PcI) (old : Int) (w : World) (ho : 0 ≤ old) (ho2 : old ≤ 4000) (hn : n ≤ 500) (hd : ∀ i, i < n → (F i).d.size ≤ 1048576) (hr : 0 < n → ∃ g, a = some ⟨g, 0, none⟩ ∧ PcRow w g n F) :
    Calls Try.prog 80 #[.int .i64 old, .slice a n c] w fun e w' => e = .returned (.bool (pcB F n old)) ∧ Below w.heap.size w w' := by
  have hnI : (n : Int) ≤ 500 := by omega
  have hnI2 : ¬ (500 : Int) < (n : Int) := by omega
  have hoI : ¬ old < 0 := by omega
  have hoI2 : ¬ 4000 < old := by omega
  have HY : Hid (∀ p w, pcP p old → Calls Try.prog 101 #[pcV p.f p.l p.d, .int .i64 old] w fun e w' => e = .returned (.bool true) ∧ Below w.heap.size w w') := fun p w h => okFor_yes p old w h ho2
  have HN : Hid (∀ p w, ¬ pcP p old → Calls Try.prog 101 #[pcV p.f p.l p.d, .int .i64 old] w fun e w' => e = .returned (.bool false) ∧ Below w.heap.size w w') := fun p w h => okFor_no p old w h ho2
  unfold pcV at HY HN
  have HR : Hid (0 < n → ∃ g, a = some ⟨g, 0, none⟩ ∧ PcRow w g n F) := hr
  have HD : Hid (∀ i, i < n → (F i).d.size ≤ 1048576) := hd
  have HO : Hid (0 ≤ old ∧ old ≤ 4000 ∧ n ≤ 500) := ⟨ho, ho2, hn⟩
  have HM : Hid (∀ w', Below w.heap.size w w' → (∀ j, j < n → pcP (F j) old) → Calls Try.prog 81 #[.slice a n c] w' fun e w'' => e = .returned (.int .i64 (pcSum F n)) ∧ Below w'.heap.size w' w'') := fun w' hb hg =>
    made_any _ n F old w' hn ho2 hd hg ⟨a, c, rfl, fun h0 => by obtain ⟨g, h1, h2⟩ := hr h0; exact ⟨g, h1, h2.below hb h2.lt⟩⟩
  clear hr hd
  go_enter Try.func80, Try.ntmps80
  go_wp2_with fail
  go_loopw [20] (fun v wr => ∃ (i : Nat), i ≤ n ∧ v = .int .i64 (i : Int) ∧ Hid (∀ j, j < i → pcP (F j) old) ∧ Hid (Below w.heap.size w wr)) (fun v _ => n - (intN v).toNat)
  case atStart => exact ⟨0, by omega, rfl, fun j hj => absurd hj (by omega), Below.refl _ _⟩
  case round =>
    obtain ⟨i, hi, rfl, HG, HB⟩ := hrel
    by_cases hlt : i < n
    · have hltI : (i : Int) < (n : Int) := by omega
      obtain ⟨g, rfl, hrow⟩ := HR.out (by omega)
      have hrow2 := hrow.below HB.out hrow.lt
      obtain ⟨q, hq⟩ : ∃ q, q = 3 * i := ⟨_, rfl⟩
      have x0 := hrow2.c0 i hlt
      have x1 := hrow2.c1 i hlt
      have x2 := hrow2.c2 i hlt
      rw [← hq] at x0 x1 x2
      have hiq : i * 3 = q := by omega
      have HST : Hid (pcP (F i) old → ∀ j, j < i + 1 → pcP (F j) old) := fun h j hj => by
        by_cases e : j < i
        · exact HG.out j e
        · obtain rfl : j = i := by omega
          exact h
      have HNO : Hid (¬ pcP (F i) old → pcB F n old = false) := fun h => pcB_no fun c => h (c.2.2.2.1 i hlt)
      have HLT : Hid (i < n) := hlt
      clear hrow hrow2 hq HG
      generalize F i = p at x0 x1 x2 HST HNO
      have HY2 := HY.out p
      have HN2 := HN.out p
      have HY2 : Hid (∀ w, pcP p old → _) := HY2
      have HN2 : Hid (∀ w, ¬ pcP p old → _) := HN2
      have HB1 : Hid (Below w.heap.size w (wr.alloc (.cells #[.int .i64 p.f, .int .i64 p.l, .string p.d] 89))) := HB.out.alloc HB.out.size _
      by_cases hp : pcP p old
      · have HST2 : Hid _ := HST.out hp
        have HP : Hid (pcP p old) := hp
        clear hp HST HNO HN2
        go_wp2_with fail
        refine (HY2.out _ HP.out).mono ?_
        rintro e w3 ⟨rfl, hb3⟩
        have HB3 : Hid (Below w.heap.size w w3) := bl3 HB1.out hb3 HB1.out.size
        clear hb3 x0 x1 x2 HB HB1 HY2 HP
        go_wp2_with fail
        go_roundw
        case rel => exact ⟨i + 1, by omega, by go_num, HST2, HB3⟩
        case measure => simp [intN]; omega
      · have HNN : Hid (pcB F n old = false) := HNO.out hp
        have HP : Hid (¬ pcP p old) := hp
        clear hp HST HNO HY2
        go_wp2_with fail
        refine (HN2.out _ HP.out).mono ?_
        rintro e w3 ⟨rfl, hb3⟩
        have HB3 : Hid (Below w.heap.size w w3) := bl3 HB1.out hb3 HB1.out.size
        clear hb3 x0 x1 x2 HB HB1 HP HN2
        go_wp2_with fail
        go_ret
        exact ⟨by rw [HNN.out]; rfl, HB3.out⟩
    · obtain rfl : i = n := by omega
      have HM2 : Hid (Calls Try.prog 81 #[.slice a i c] wr fun e w'' => e = .returned (.int .i64 (pcSum F i)) ∧ Below wr.heap.size wr w'') := HM.out _ HB.out HG.out
      clear HM HY HN HR
      by_cases h4 : pcSum F i ≤ 4000
      · have HQ : Hid (pcB F i old = true) := pcB_yes ⟨HO.out.1, HO.out.2.1, HO.out.2.2, HG.out, h4⟩
        clear HG
        generalize pcSum F i = X at h4 HM2
        go_wp2_with fail
        refine HM2.out.mono ?_
        rintro e w3 ⟨rfl, hb3⟩
        have HB3 : Hid (Below w.heap.size w w3) := bl3 HB.out hb3 HB.out.size
        clear hb3
        go_wp2_with fail
        go_ret
        exact ⟨by rw [HQ.out]; rfl, HB3.out⟩
      · have HQ : Hid (pcB F i old = false) := pcB_no fun c => h4 c.2.2.2.2
        clear HG
        generalize pcSum F i = X at h4 HM2
        go_wp2_with fail
        refine HM2.out.mono ?_
        rintro e w3 ⟨rfl, hb3⟩
        have HB3 : Hid (Below w.heap.size w w3) := bl3 HB.out hb3 HB.out.size
        clear hb3
        go_wp2_with fail
        go_ret
        have e : decide (X ≤ 4000) = false := decide_eq_false (by omega)
        exact ⟨by rw [HQ.out, ← e]; rfl, HB3.out⟩
set_option maxRecDepth 100000 in
set_option maxHeartbeats 1000000 in
theorem pcs_bad (a : Option Addr) (c n : Nat) (F : Nat → PcI) (old : Int) (w : World) (h : ¬ (0 ≤ old ∧ old ≤ 4000 ∧ n ≤ 500)) :
    Calls Try.prog 80 #[.int .i64 old, .slice a n c] w fun e w' => e = .returned (.bool (pcB F n old)) ∧ Below w.heap.size w w' := by
  rw [pcB_no fun c => h ⟨c.1, c.2.1, c.2.2.1⟩]
  by_cases h1 : 0 ≤ old
  · by_cases h2 : old ≤ 4000
    · have h3 : ¬ n ≤ 500 := fun c => h ⟨h1, h2, c⟩
      have h3I : (500 : Int) < (n : Int) := by omega
      clear h h3
      go_enter Try.func80, Try.ntmps80
      go_wp2_with fail
      go_ret
      exact ⟨rfl, Below.refl _ _⟩
    · clear h
      go_enter Try.func80, Try.ntmps80
      go_wp2_with fail
      go_ret
      exact ⟨rfl, Below.refl _ _⟩
  · clear h
    go_enter Try.func80, Try.ntmps80
    go_wp2_with fail
    go_ret
    exact ⟨rfl, Below.refl _ _⟩
theorem pcs_any (v : Value) (n : Nat) (F : Nat → PcI) (old : Int) (w : World) (hF : PcLe F n) (h : PcArg w v n F) :
    Calls Try.prog 80 #[.int .i64 old, v] w fun e w' => e = .returned (.bool (pcB F n old)) ∧ Below w.heap.size w w' := by
  obtain ⟨a, c, rfl, hr⟩ := h
  by_cases h : 0 ≤ old ∧ old ≤ 4000 ∧ n ≤ 500
  · exact pcs_loop a c n F old w h.1 h.2.1 h.2.2 hF.d hr
  · exact pcs_bad a c n F old w h
end Go.Proofs.Ytpeddaljgmkomaa

/-!   What is read of a text of pieces, as plain mathematics; the readers of numbers and data. -/
namespace Go.Proofs.Ytpeddaljgmkomaa
open Go.RowKit
set_option linter.unusedVariables false
set_option linter.unusedSimpArgs false
/-- a number that may stand in a text, and where it ends -/
def numI (s : ByteArray) : Option (Nat × ByteArray) := match num s with
  | none => none
  | some (X, u) => if X ≤ 1000000000000 then some (X.toNat, s.extract u s.size) else none
def numIV : Option (Nat × ByteArray) → Value
  | none => .tuple #[.int .i64 0, .string ⟨#[]⟩, .bool false]
  | some (n, r) => .tuple #[.int .i64 (n : Int), .string r, .bool true]
theorem numI_none1 {s : ByteArray} (h : num s = none) : numI s = none := by unfold numI; rw [h]
theorem numI_none2 {s : ByteArray} {X : Int} {u : Nat} (h : num s = some (X, u)) (hx : ¬ X ≤ 1000000000000) : numI s = none := by unfold numI; rw [h]; exact if_neg hx
theorem numI_some {s : ByteArray} {X : Int} {u : Nat} (h : num s = some (X, u)) (hx : X ≤ 1000000000000) : numI s = some (X.toNat, s.extract u s.size) := by unfold numI; rw [h]; exact if_pos hx
theorem num_nn {s : ByteArray} {X : Int} {u : Nat} (h : num s = some (X, u)) : 0 ≤ X := rd_nn _ _ _ _ _ h
theorem numI_bd {s : ByteArray} {n : Nat} {r : ByteArray} (h : numI s = some (n, r)) : n ≤ 1000000000000 ∧ r.size ≤ s.size := by
  unfold numI at h
  cases hn : num s with
  | none => rw [hn] at h; cases h
  | some p =>
    obtain ⟨X, u⟩ := p
    rw [hn] at h
    simp only at h
    split at h
    · simp only [Option.some.injEq, Prod.mk.injEq] at h
      have := num_nn hn
      refine ⟨by omega, ?_⟩
      rw [← h.2, ByteArray.size_extract]; omega
    · cases h
def datI (s : ByteArray) : Option (ByteArray × ByteArray) := match txt s with
  | none => none
  | some (n, u) => some (s.extract u (u + n), s.extract (u + n) s.size)
theorem datI_out (s : ByteArray) : textOut s = (match datI s with | none => .tuple #[.string ⟨#[]⟩, .string ⟨#[]⟩, .bool false] | some (d, r) => .tuple #[.string d, .string r, .bool true]) := by
  unfold textOut datI
  cases txt s with
  | none => rfl
  | some p => obtain ⟨n, u⟩ := p; rfl
theorem datI_bd {s d r : ByteArray} (h : datI s = some (d, r)) : d.size ≤ s.size ∧ r.size ≤ s.size := by
  unfold datI at h
  cases ht : txt s with
  | none => rw [ht] at h; cases h
  | some p =>
    obtain ⟨n, u⟩ := p
    rw [ht] at h
    simp only [Option.some.injEq, Prod.mk.injEq] at h
    rw [← h.1, ← h.2, ByteArray.size_extract, ByteArray.size_extract]; omega
/-- a piece that a text begins with -/
noncomputable def pieI (s : ByteArray) : Option (PcI × ByteArray) := match datI s with
  | none => none
  | some (d, r) => open Classical in if d = ⟨#[]⟩ then
      (match numI r with
      | none => none
      | some (f, r1) => match numI r1 with
        | none => none
        | some (l, r2) => some (⟨(f : Int), (l : Int), ⟨#[]⟩⟩, r2))
    else some (⟨0, 0, d⟩, r)
theorem pieI_bad {s : ByteArray} (h : datI s = none) : pieI s = none := by unfold pieI; rw [h]
theorem pieI_dat {s d r : ByteArray} (h : datI s = some (d, r)) (hd : d ≠ ⟨#[]⟩) : pieI s = some (⟨0, 0, d⟩, r) := by unfold pieI; rw [h]; exact if_neg hd
theorem pieI_no1 {s r : ByteArray} (h : datI s = some (⟨#[]⟩, r)) (h1 : numI r = none) : pieI s = none := by
  unfold pieI; rw [h]; simp only; rw [if_pos trivial, h1]
theorem pieI_no2 {s r r1 : ByteArray} {f : Nat} (h : datI s = some (⟨#[]⟩, r)) (h1 : numI r = some (f, r1)) (h2 : numI r1 = none) : pieI s = none := by
  unfold pieI; rw [h]; simp only; rw [if_pos trivial, h1]; simp only; rw [h2]
theorem pieI_yes {s r r1 r2 : ByteArray} {f l : Nat} (h : datI s = some (⟨#[]⟩, r)) (h1 : numI r = some (f, r1)) (h2 : numI r1 = some (l, r2)) : pieI s = some (⟨(f : Int), (l : Int), ⟨#[]⟩⟩, r2) := by
  unfold pieI; rw [h]; simp only; rw [if_pos trivial, h1]; simp only; rw [h2]
theorem pieI_bd {s r : ByteArray} {p : PcI} (h : pieI s = some (p, r)) : p.d.size ≤ s.size ∧ r.size ≤ s.size := by
  cases hd : datI s with
  | none => rw [pieI_bad hd] at h; cases h
  | some q =>
    obtain ⟨d, r0⟩ := q
    obtain ⟨b1, b2⟩ := datI_bd hd
    by_cases he : d = ⟨#[]⟩
    · subst he
      cases h1 : numI r0 with
      | none => rw [pieI_no1 hd h1] at h; cases h
      | some q1 =>
        obtain ⟨f, r1⟩ := q1
        cases h2 : numI r1 with
        | none => rw [pieI_no2 hd h1 h2] at h; cases h
        | some q2 =>
          obtain ⟨l, r2⟩ := q2
          rw [pieI_yes hd h1 h2] at h
          simp only [Option.some.injEq, Prod.mk.injEq] at h
          obtain ⟨rfl, rfl⟩ := h
          have c1 := (numI_bd h1).2
          have c2 := (numI_bd h2).2
          exact ⟨Nat.zero_le _, by omega⟩
    · rw [pieI_dat hd he] at h
      simp only [Option.some.injEq, Prod.mk.injEq] at h
      obtain ⟨rfl, rfl⟩ := h
      exact ⟨b1, b2⟩
/-- so many pieces, one behind the other -/
noncomputable def piesI (s : ByteArray) : Nat → Option (List PcI × ByteArray)
  | 0 => some ([], s)
  | i + 1 => match piesI s i with
    | none => none
    | some (L, r) => match pieI r with
      | none => none
      | some (p, r') => some (L ++ [p], r')
theorem piesI_none {s : ByteArray} {i : Nat} (h : piesI s i = none) : ∀ j, piesI s (i + j) = none
  | 0 => h
  | j + 1 => by
    have := piesI_none h j
    show (match piesI s (i + j) with | none => none | some (L, r) => match pieI r with | none => none | some (p, r') => some (L ++ [p], r')) = none
    rw [this]
theorem piesI_go {s r r' : ByteArray} {i : Nat} {L : List PcI} {p : PcI} (h : piesI s i = some (L, r)) (h2 : pieI r = some (p, r')) : piesI s (i + 1) = some (L ++ [p], r') := by
  show (match piesI s i with | none => none | some (L, r) => match pieI r with | none => none | some (p, r') => some (L ++ [p], r')) = _
  rw [h]; simp only; rw [h2]
theorem piesI_stop {s r : ByteArray} {i : Nat} {L : List PcI} (h : piesI s i = some (L, r)) (h2 : pieI r = none) : piesI s (i + 1) = none := by
  show (match piesI s i with | none => none | some (L, r) => match pieI r with | none => none | some (p, r') => some (L ++ [p], r')) = _
  rw [h]; simp only; rw [h2]
theorem piesI_bd {s r : ByteArray} {i : Nat} {L : List PcI} (h : piesI s i = some (L, r)) : L.length = i ∧ r.size ≤ s.size ∧ ∀ p ∈ L, p.d.size ≤ s.size := by
  induction i generalizing L r with
  | zero =>
    simp only [piesI, Option.some.injEq, Prod.mk.injEq] at h
    obtain ⟨rfl, rfl⟩ := h
    exact ⟨rfl, Nat.le_refl _, fun p hp => by cases hp⟩
  | succ i ih =>
    cases h1 : piesI s i with
    | none => have := piesI_none h1 1; rw [this] at h; cases h
    | some q =>
      obtain ⟨L0, r0⟩ := q
      obtain ⟨b1, b2, b3⟩ := ih h1
      cases h2 : pieI r0 with
      | none => rw [piesI_stop h1 h2] at h; cases h
      | some q2 =>
        obtain ⟨p, r1⟩ := q2
        rw [piesI_go h1 h2] at h
        simp only [Option.some.injEq, Prod.mk.injEq] at h
        obtain ⟨rfl, rfl⟩ := h
        obtain ⟨c1, c2⟩ := pieI_bd h2
        refine ⟨by rw [List.length_append, b1]; rfl, by omega, fun x hx => ?_⟩
        rcases List.mem_append.1 hx with hx | hx
        · exact b3 x hx
        · simp at hx; subst hx; omega
/-- what ReadDelta tells -/
noncomputable def rdD (s : ByteArray) : Option (List PcI) := match numI s with
  | none => none
  | some (n, r) => if n ≤ 500 then (match piesI r n with
    | none => none
    | some (L, r') => open Classical in if r' = ⟨#[]⟩ ∧ pcR (pcF L) n 4000 then some L else none) else none
theorem rdD_no1 {s : ByteArray} (h : numI s = none) : rdD s = none := by unfold rdD; rw [h]
theorem rdD_no2 {s r : ByteArray} {n : Nat} (h : numI s = some (n, r)) (hn : ¬ n ≤ 500) : rdD s = none := by unfold rdD; rw [h]; exact if_neg hn
theorem rdD_no3 {s r : ByteArray} {n : Nat} (h : numI s = some (n, r)) (h2 : piesI r n = none) : rdD s = none := by
  unfold rdD; rw [h]; simp only
  split
  · rw [h2]
  · rfl
theorem rdD_no4 {s r r' : ByteArray} {n : Nat} {L : List PcI} (h : numI s = some (n, r)) (h2 : piesI r n = some (L, r')) (h3 : ¬ (r' = ⟨#[]⟩ ∧ pcR (pcF L) n 4000)) : rdD s = none := by
  unfold rdD; rw [h]; simp only
  split
  · rw [h2]; exact if_neg h3
  · rfl
theorem rdD_yes {s r : ByteArray} {n : Nat} {L : List PcI} (h : numI s = some (n, r)) (hn : n ≤ 500) (h2 : piesI r n = some (L, ⟨#[]⟩)) (h3 : pcR (pcF L) n 4000) : rdD s = some L := by
  unfold rdD; rw [h]; simp only; rw [if_pos hn, h2]; exact if_pos ⟨rfl, h3⟩
end Go.Proofs.Ytpeddaljgmkomaa
