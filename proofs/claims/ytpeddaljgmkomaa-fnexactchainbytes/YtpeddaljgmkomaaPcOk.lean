/-
  How much a piece makes, and whether it is right: the code's and the specification's.
-/
import Derived.Test.YtpeddaljgmkomaaToPc
import Derived.Laws.Strings
namespace Go.Proofs.Ytpeddaljgmkomaa
open Go.RowKit
set_option linter.unusedVariables false
set_option linter.unusedSimpArgs false
theorem d_ne {d : ByteArray} (h : d ≠ ⟨#[]⟩) : d.toList.isEmpty = false := by
  rw [ByteArray.toList_eq]
  cases hd : d.data.toList with
  | nil =>
    exfalso; apply h
    have e : d.data = #[] := Array.toList_inj.1 hd
    cases d; simp at e; subst e; rfl
  | cons a l => rfl
theorem d_pos {d : ByteArray} (h : d ≠ ⟨#[]⟩) : 1 ≤ d.size := by
  have h1 := d_ne h
  rw [ByteArray.toList_eq] at h1
  have h2 : d.size = d.data.toList.length := by show d.data.size = _; simp
  cases hd : d.data.toList with
  | nil => rw [hd] at h1; cases h1
  | cons a l => rw [h2, hd]; simp
noncomputable def pcSz (p : PcI) : Int := open Classical in if p.d = ⟨#[]⟩ then p.l else (p.d.size : Int)
theorem pcSz_no {p : PcI} (h : p.d = ⟨#[]⟩) : pcSz p = p.l := by unfold pcSz; rw [if_pos h]
theorem pcSz_yes {p : PcI} (h : p.d ≠ ⟨#[]⟩) : pcSz p = (p.d.size : Int) := by unfold pcSz; rw [if_neg h]
def pcP (p : PcI) (old : Int) : Prop := (p.d = ⟨#[]⟩ ∧ 1 ≤ p.l ∧ p.l ≤ old ∧ 0 ≤ p.f ∧ p.f ≤ old - p.l) ∨ (p.d ≠ ⟨#[]⟩ ∧ p.f = 0 ∧ p.l = 0)
noncomputable def pcSum (F : Nat → PcI) : Nat → Int
  | 0 => 0
  | i + 1 => pcSum F i + pcSz (F i)
theorem pcP_pos {p : PcI} {old : Int} (h : pcP p old) : 1 ≤ pcSz p := by
  rcases h with ⟨h, h1, _⟩ | ⟨h, _⟩
  · rw [pcSz_no h]; exact h1
  · rw [pcSz_yes h]; have := d_pos h; omega
theorem pcP_le {p : PcI} {old : Int} (h : pcP p old) (ho : old ≤ 4000) (hd : p.d.size ≤ 1048576) : pcSz p ≤ 1048576 := by
  rcases h with ⟨h, _, h1, _⟩ | ⟨h, _⟩
  · rw [pcSz_no h]; omega
  · rw [pcSz_yes h]; omega
theorem pcSum_mono {F : Nat → PcI} {old : Int} {i n : Nat} (h : i ≤ n) (hg : ∀ j, j < n → pcP (F j) old) : pcSum F i ≤ pcSum F n := by
  induction n with
  | zero =>
    obtain rfl : i = 0 := by omega
    exact Int.le_refl _
  | succ n ih =>
    by_cases e : i = n + 1
    · subst e; exact Int.le_refl _
    · have h1 := ih (by omega) (fun j hj => hg j (by omega))
      have h2 := pcP_pos (hg n (by omega))
      show _ ≤ pcSum F n + pcSz (F n)
      omega
theorem pcSum_le {F : Nat → PcI} {old : Int} {n : Nat} (ho : old ≤ 4000) (hd : ∀ i, i < n → (F i).d.size ≤ 1048576) (hg : ∀ j, j < n → pcP (F j) old) : 0 ≤ pcSum F n ∧ pcSum F n ≤ n * 1048576 := by
  induction n with
  | zero => exact ⟨Int.le_refl _, Int.le_refl _⟩
  | succ n ih =>
    have h1 := ih (fun i hi => hd i (by omega)) (fun j hj => hg j (by omega))
    have h2 := pcP_pos (hg n (by omega))
    have h3 := pcP_le (hg n (by omega)) ho (hd n (by omega))
    show 0 ≤ pcSum F n + pcSz (F n) ∧ pcSum F n + pcSz (F n) ≤ _
    omega
/-- right pieces for an old text of so many bytes -/
def pcR (F : Nat → PcI) (n : Nat) (old : Int) : Prop := 0 ≤ old ∧ old ≤ 4000 ∧ n ≤ 500 ∧ (∀ i, i < n → pcP (F i) old) ∧ pcSum F n ≤ 4000
set_option maxRecDepth 100000 in
theorem size_any (p : PcI) (w : World) : Calls Try.prog 83 #[pcV p.f p.l p.d] w fun e w' => e = .returned (.int .i64 (pcSz p)) ∧ Below w.heap.size w w' := by
  obtain ⟨f, l, d⟩ := p
  by_cases h : d = ⟨#[]⟩
  · rw [pcSz_no h]
    subst h
    unfold pcV
    go_enter Try.func83, Try.ntmps83
    go_wp2_with fail
    go_ret
    exact ⟨rfl, (Below.refl _ _).alloc (Nat.le_refl _) _⟩
  · rw [pcSz_yes h]
    unfold pcV
    have h1 := d_ne h
    clear h
    go_enter Try.func83, Try.ntmps83
    go_wp2_with fail
    go_ret
    exact ⟨rfl, (Below.refl _ _).alloc (Nat.le_refl _) _⟩
set_option maxRecDepth 100000 in
theorem slong_any (p : PcI) (w : World) : Calls Try.prog 78 #[pcV p.f p.l p.d] w fun e w' => e = .returned (.int .i64 (pcSz p)) ∧ Below w.heap.size w w' := by
  obtain ⟨f, l, d⟩ := p
  by_cases h : d = ⟨#[]⟩
  · rw [pcSz_no h]
    subst h
    unfold pcV
    go_enter Try.func78, Try.ntmps78
    go_wp2_with fail
    go_ret
    exact ⟨rfl, (Below.refl _ _).alloc (Nat.le_refl _) _⟩
  · rw [pcSz_yes h]
    unfold pcV
    have h1 := d_ne h
    clear h
    go_enter Try.func78, Try.ntmps78
    go_wp2_with fail
    go_ret
    exact ⟨rfl, (Below.refl _ _).alloc (Nat.le_refl _) _⟩
set_option maxRecDepth 100000 in
set_option maxHeartbeats 1000000 in
theorem okFor_yes (p : PcI) (old : Int) (w : World) (h : pcP p old) (ho : old ≤ 4000) : Calls Try.prog 101 #[pcV p.f p.l p.d, .int .i64 old] w fun e w' => e = .returned (.bool true) ∧ Below w.heap.size w w' := by
  obtain ⟨f, l, d⟩ := p
  rcases h with ⟨h, h1, h2, h3, h4⟩ | ⟨h, h1, h2⟩
  · simp only at h h1 h2 h3 h4
    subst h
    unfold pcV
    have hw : IntKind.i64.wrap (old - l) = old - l := by rw [IntKind.wrap_i64]; omega
    go_enter Try.func101, Try.ntmps101
    go_wp2_with fail
    go_ret
    exact ⟨rfl, (Below.refl _ _).alloc (Nat.le_refl _) _⟩
  · simp only at h h1 h2
    subst h1 h2
    unfold pcV
    have h1 := d_ne h
    clear h
    go_enter Try.func101, Try.ntmps101
    go_wp2_with fail
    go_ret
    exact ⟨rfl, (Below.refl _ _).alloc (Nat.le_refl _) _⟩
set_option maxRecDepth 100000 in
set_option maxHeartbeats 4000000 in
theorem okFor_no (p : PcI) (old : Int) (w : World) (h : ¬ pcP p old) (ho : old ≤ 4000) : Calls Try.prog 101 #[pcV p.f p.l p.d, .int .i64 old] w fun e w' => e = .returned (.bool false) ∧ Below w.heap.size w w' := by
  obtain ⟨f, l, d⟩ := p
  unfold pcP at h
  simp only at h ⊢
  unfold pcV
  by_cases hd : d = ⟨#[]⟩
  · subst hd
    by_cases c1 : 1 ≤ l
    · by_cases c2 : l ≤ old
      · have hw : IntKind.i64.wrap (old - l) = old - l := by rw [IntKind.wrap_i64]; omega
        by_cases c3 : 0 ≤ f
        · have c4 : ¬ f ≤ old - l := fun c => h (Or.inl ⟨rfl, c1, c2, c3, c⟩)
          clear h
          go_enter Try.func101, Try.ntmps101
          go_wp2_with fail
          go_ret
          exact ⟨rfl, (Below.refl _ _).alloc (Nat.le_refl _) _⟩
        · clear h
          go_enter Try.func101, Try.ntmps101
          go_wp2_with fail
          go_ret
          exact ⟨rfl, (Below.refl _ _).alloc (Nat.le_refl _) _⟩
      · clear h
        go_enter Try.func101, Try.ntmps101
        go_wp2_with fail
        go_ret
        exact ⟨rfl, (Below.refl _ _).alloc (Nat.le_refl _) _⟩
    · clear h
      go_enter Try.func101, Try.ntmps101
      go_wp2_with fail
      go_ret
      exact ⟨rfl, (Below.refl _ _).alloc (Nat.le_refl _) _⟩
  · have h1 := d_ne hd
    by_cases c1 : f = 0
    · by_cases c2 : l = 0
      · exact absurd (Or.inr ⟨hd, c1, c2⟩) h
      · have e2 := beq_eq_false_iff_ne.2 c2
        clear h hd
        go_enter Try.func101, Try.ntmps101
        go_wp2_with fail
        go_ret
        exact ⟨rfl, (Below.refl _ _).alloc (Nat.le_refl _) _⟩
    · have e1 := beq_eq_false_iff_ne.2 c1
      clear h hd
      go_enter Try.func101, Try.ntmps101
      go_wp2_with fail
      go_ret
      exact ⟨rfl, (Below.refl _ _).alloc (Nat.le_refl _) _⟩
set_option maxRecDepth 100000 in
set_option maxHeartbeats 2000000 in
theorem made_any (v : Value) (n : Nat) (F : Nat → PcI) (old : Int) (w : World) (hn : n ≤ 500) (ho : old ≤ 4000) (hd : ∀ i, i < n → (F i).d.size ≤ 1048576) (hg : ∀ j, j < n → pcP (F j) old) (h : PcArg w v n F) :
    Calls Try.prog 81 #[v] w fun e w' => e = .returned (.int .i64 (pcSum F n)) ∧ Below w.heap.size w w' := by
  obtain ⟨a, c, rfl, hr⟩ := h
  have hnI : (n : Int) ≤ 500 := by omega
  have HZ : Hid (∀ p w, Calls Try.prog 83 #[pcV p.f p.l p.d] w fun e w' => e = .returned (.int .i64 (pcSz p)) ∧ Below w.heap.size w w') := fun p w => size_any p w
  unfold pcV at HZ
  have HR : Hid (0 < n → ∃ g, a = some ⟨g, 0, none⟩ ∧ PcRow w g n F) := hr
  have HD : Hid ((∀ i, i < n → (F i).d.size ≤ 1048576) ∧ (∀ j, j < n → pcP (F j) old) ∧ old ≤ 4000) := ⟨hd, hg, ho⟩
  clear hr hd hg ho
  go_enter Try.func81, Try.ntmps81
  go_wp2_with fail
  go_loopw [3, 8] (fun u v wr => ∃ (i : Nat), i ≤ n ∧ v = .int .i64 (i : Int) ∧ u = .int .i64 (pcSum F i) ∧ Hid (Below w.heap.size w wr)) (fun _ v _ => n - (intN v).toNat)
  case atStart => exact ⟨0, by omega, rfl, rfl, Below.refl _ _⟩
  case round =>
    obtain ⟨i, hi, rfl, rfl, HB⟩ := hrel
    by_cases hlt : i < n
    · have hltI : (i : Int) < (n : Int) := by omega
      obtain ⟨g, rfl, hrow⟩ := HR.out (by omega)
      have hrow2 := hrow.below HB.out hrow.lt
      obtain ⟨q, hq⟩ : ∃ q, q = 3 * i := ⟨_, rfl⟩
      have x0 := hrow2.c0 i hlt
      have x1 := hrow2.c1 i hlt
      have x2 := hrow2.c2 i hlt
      rw [← hq] at x0 x1 x2
      have hiq : i * 3 = q := by omega
      have b1 := pcSum_le HD.out.2.2 (fun j hj => HD.out.1 j (by omega)) (fun j hj => HD.out.2.1 j (by omega)) (n := i)
      have b2 := pcP_pos (HD.out.2.1 i hlt)
      have b3 := pcP_le (HD.out.2.1 i hlt) HD.out.2.2 (HD.out.1 i hlt)
      have HSS : Hid (pcSum F (i + 1) = pcSum F i + pcSz (F i)) := rfl
      obtain ⟨X, hX⟩ : ∃ X, X = pcSum F i := ⟨_, rfl⟩
      obtain ⟨Y, hY⟩ : ∃ Y, Y = pcSz (F i) := ⟨_, rfl⟩
      rw [← hX] at b1 HSS ⊢
      rw [← hY] at b2 b3 HSS
      have hw : IntKind.i64.wrap (X + Y) = X + Y := by rw [IntKind.wrap_i64]; omega
      have HZ2 : Hid (∀ w, Calls Try.prog 83 #[.agg #[.int .i64 (F i).f, .int .i64 (F i).l, .string (F i).d]] w fun e w' => e = .returned (.int .i64 Y) ∧ Below w.heap.size w w') := by rw [hY]; exact fun w => HZ.out (F i) w
      clear hrow hrow2 hq hX hY b1 b2 b3
      generalize F i = p at x0 x1 x2 HZ2 HSS
      obtain ⟨f, l, d⟩ := p
      simp only at x0 x1 x2 HZ2
      have hb1 : Below w.heap.size w (wr.alloc (.cells #[.int .i64 f, .int .i64 l, .string d] 89)) := HB.out.alloc HB.out.size _
      have HB1 : Hid _ := hb1
      clear hb1
      go_wp2_with fail
      refine (HZ2.out _).mono ?_
      rintro e w3 ⟨rfl, hb3⟩
      have HB3 : Hid (Below w.heap.size w w3) := bl3 HB1.out hb3 HB1.out.size
      clear hb3 x0 x1 x2 HB
      go_wp2_with fail
      go_roundw
      case rel => exact ⟨i + 1, by omega, by go_num, by rw [HSS.out], HB3⟩
      case measure => simp [intN]; omega
    · obtain rfl : i = n := by omega
      go_wp2_with fail
      go_ret
      exact ⟨rfl, HB.out⟩
end Go.Proofs.Ytpeddaljgmkomaa
