/-
  Parts of pieces: the code's.
-/
import Derived.Test.YtadimakdjndcdaeCmM
namespace Go.Proofs.Ytadimakdjndcdae
open Go.RowKit
set_option linter.unusedVariables false
set_option linter.unusedSimpArgs false
/-- what the parts are asked of -/
structure PrtIn (F : Nat → PcI) (n : Nat) (a b : Int) : Prop where
  len : n ≤ 500
  ok : ∀ i, i < n → pcP (F i) 4000
  d : ∀ i, i < n → (F i).d.size ≤ 1048576
  sum : pcSum F n ≤ 4000
  lo : 0 ≤ a
  hi : a ≤ b ∧ b ≤ 4000
set_option maxRecDepth 100000 in
set_option maxHeartbeats 4000000 in
theorem parts_any (v : Value) (n : Nat) (F : Nat → PcI) (a b : Int) (w : World) (hI : PrtIn F n a b) (h : PcArg w v n F) :
    Calls Try.prog 25 #[v, .int .i64 a, .int .i64 b] w fun e w' => (∃ v', e = .returned v' ∧ w'.ownsRow w.heap.size 43 3 v' (prtL F a b n).length (pcC (prtL F a b n))) ∧ Below w.heap.size w w' := by
  obtain ⟨sa, sc, rfl, hr⟩ := h
  have hnI : (n : Int) ≤ 500 := by have := hI.len; omega
  obtain ⟨i0, hi, hz0, hz1, hz2⟩ := info_parts Try.infP
  have HZ : Hid (∀ p w, Calls Try.prog 24 #[pcV p.f p.l p.d] w fun e w' => e = .returned (.int .i64 (pcSz p)) ∧ Below w.heap.size w w') := fun p w => size_any p w
  have HT : Hid (∀ (p : PcI) (x y : Int) w, 0 ≤ x → x ≤ y → y ≤ pcSz p → pcSz p ≤ 1048576 → (0 ≤ p.f ∧ p.f ≤ 4000) → Calls Try.prog 23 #[pcV p.f p.l p.d, .int .i64 x, .int .i64 y] w fun e w' => e = .returned (pcV (partI p x y).f (partI p x y).l (partI p x y).d) ∧ Below w.heap.size w w') := fun p x y w h0 h1 h2 h3 h4 => part_any p x y w h0 h1 h2 h3 h4
  unfold pcV at HZ HT
  have HR : Hid (∀ w', Below w.heap.size w w' → 0 < n → ∃ g, sa = some ⟨g, 0, none⟩ ∧ PcRow w' g n F) := fun w' hb h0 => by
    obtain ⟨g, h1, h2⟩ := hr h0
    exact ⟨g, h1, h2.below hb h2.lt⟩
  have HI := hid hI
  clear hr hI
  go_enter Try.func25, Try.ntmps25
  go_wp2_with fail
  go_loopw [7, 8, 15] (fun v x t wr => ∃ (i : Nat), i ≤ n ∧ t = .int .i64 (i : Int) ∧ x = .int .i64 (pcSum F i) ∧ Hid (wr.ownsRow w.heap.size 43 3 v (prtL F a b i).length (pcC (prtL F a b i)) ∧ Below w.heap.size w wr)) (fun _ _ t _ => n - (intN t).toNat)
  case atStart => exact ⟨0, by omega, rfl, rfl, World.ownsRow_nil _ _ _ _, Below.refl _ _⟩
  case round =>
    obtain ⟨i, hi2, rfl, rfl, HO⟩ := hrel
    by_cases hlt : i < n
    · have hltI : (i : Int) < (n : Int) := by omega
      obtain ⟨g, rfl, hrow⟩ := HR.out _ HO.out.2 (by omega)
      obtain ⟨q, hq⟩ : ∃ q, q = 3 * i := ⟨_, rfl⟩
      have x0 := hrow.c0 i hlt
      have x1 := hrow.c1 i hlt
      have x2 := hrow.c2 i hlt
      rw [← hq] at x0 x1 x2
      have hiq : i * 3 = q := by omega
      have hp := HI.out.ok i hlt
      have b1 := pcSum_le (F := F) (old := 4000) (n := i) (by omega) (fun j hj => HI.out.d j (by omega)) (fun j hj => HI.out.ok j (by omega))
      have b2 := pcP_pos hp
      have b3 := pcP_le hp (by omega) (HI.out.d i hlt)
      have b4 := HI.out.lo
      have b5 := HI.out.hi
      have HLO : Hid (lowP F a i = max (a - pcSum F i) 0 ∧ highP F b i = min (b - pcSum F i) (pcSz (F i))) := ⟨rfl, rfl⟩
      have HSY := hid (fun h => stepP_yes (F := F) (a := a) (b := b) (i := i) h)
      have HSN := hid (fun h => stepP_no (F := F) (a := a) (b := b) (i := i) h)
      have HSS : Hid (pcSum F (i + 1) = pcSum F i + pcSz (F i)) := rfl
      obtain ⟨X, hX⟩ : ∃ X, X = pcSum F i := ⟨_, rfl⟩
      obtain ⟨Y, hY⟩ : ∃ Y, Y = pcSz (F i) := ⟨_, rfl⟩
      obtain ⟨lo, hlo⟩ : ∃ lo, lo = lowP F a i := ⟨_, rfl⟩
      obtain ⟨hg, hhg⟩ : ∃ hg, hg = highP F b i := ⟨_, rfl⟩
      rw [← hX] at b1 HLO HSS ⊢
      rw [← hY] at b2 b3 HLO HSS
      rw [← hlo] at HLO HSY HSN
      rw [← hhg] at HLO HSY HSN
      have e1 : IntKind.i64.wrap (a - X) = a - X := by rw [IntKind.wrap_i64]; omega
      have e2 : IntKind.i64.wrap (b - X) = b - X := by rw [IntKind.wrap_i64]; omega
      have e3 : IntKind.i64.wrap (X + Y) = X + Y := by rw [IntKind.wrap_i64]; omega
      have m1 : max (a - X) 0 = lo := HLO.out.1.symm
      have m2 : min (b - X) Y = hg := HLO.out.2.symm
      have hYY := hY
      clear hrow hq hX hY hlo hhg
      have hfb : 0 ≤ (F i).f ∧ (F i).f ≤ 4000 := by rcases hp with ⟨_, c1, c2, c3, c4⟩ | ⟨_, c1, c2⟩ <;> omega
      have HL : Hid ((prtL F a b i).length ≤ 500) := by have := prtL_len F a b i; have := HI.out.len; show _ ≤ _; omega
      have HZ2 : Hid (∀ w, Calls Try.prog 24 #[.agg #[.int .i64 (F i).f, .int .i64 (F i).l, .string (F i).d]] w fun e w' => e = .returned (.int .i64 Y) ∧ Below w.heap.size w w') := fun w => by rw [hYY]; exact HZ.out (F i) w
      have HT2 : Hid (lo < hg → ∀ w, Calls Try.prog 23 #[.agg #[.int .i64 (F i).f, .int .i64 (F i).l, .string (F i).d], .int .i64 lo, .int .i64 hg] w fun e w' => e = .returned (.agg #[.int .i64 (partI (F i) lo hg).f, .int .i64 (partI (F i) lo hg).l, .string (partI (F i) lo hg).d]) ∧ Below w.heap.size w w') := fun hlt w => HT.out (F i) lo hg w (by have := HLO.out; omega) (by omega) (by rw [← hYY]; have := HLO.out; omega) (by rw [← hYY]; omega) hfb
      have HO0 := hid (World.ownsRow.alloc HO.out.1 (.cells #[.int .i64 (F i).f, .int .i64 (F i).l, .string (F i).d] 43))
      have HB0 := hid (HO.out.2.alloc HO.out.2.size (.cells #[.int .i64 (F i).f, .int .i64 (F i).l, .string (F i).d] 43))
      have HR0 := hid (heap_alloc_new wr (.cells #[.int .i64 (F i).f, .int .i64 (F i).l, .string (F i).d] 43))
      have HNB := hid (own3_ne HO.out.1 (Nat.le_refl _))
      have hwsz := HO.out.2.size
      clear HO hp hfb hYY HT HZ
      generalize F i = p at x0 x1 x2 HZ2 HT2 HO0 HB0 HR0 HSY HSN
      go_wp2_with fail
      refine (HZ2.out _).mono ?_
      rintro e w3 ⟨rfl, hb3⟩
      have HO3 := hid (own3_call HO0.out hb3)
      have HB3 := hid (bl3 HB0.out hb3 HB0.out.size)
      have HR3 := hid ((hb3.block _ (by simp)).trans HR0.out)
      have c0 : w3.cell? ⟨wr.heap.size, 0, none⟩ = some (.int .i64 p.f) := cell_of_row _ _ _ _ _ _ HR3.out
      have c1 : w3.cell? ⟨wr.heap.size, 1, none⟩ = some (.int .i64 p.l) := cell_of_row _ _ _ _ _ _ HR3.out
      have c2 : w3.cell? ⟨wr.heap.size, 2, none⟩ = some (.string p.d) := cell_of_row _ _ _ _ _ _ HR3.out
      have h3sz := HB3.out.size
      clear hb3 HO0 HB0 HR0 x0 x1 x2
      by_cases hc : lo < hg
      · have HS2 := hid (HSY.out hc)
        have HPT := hid (HT2.out hc)
        clear HSY HSN HT2
        generalize partI p lo hg = P at HS2 HPT
        have HSN2 : Hid (pcC (prtL F a b i) ++ [.int .i64 P.f, .int .i64 P.l, .string P.d] = pcC (prtL F a b (i + 1))) := by rw [HS2.out]; exact pcC_snoc _ P
        have HSL : Hid ((prtL F a b (i + 1)).length = (prtL F a b i).length + 1) := by rw [HS2.out, List.length_append]; exact rfl
        generalize hQ : prtL F a b i = Q at HL HO3 HSN2 HSL
        clear hQ HS2
        go_wp2_with fail
        refine (HPT.out _).mono ?_
        rintro e w4 ⟨rfl, hb4⟩
        have HO4 := hid (own3_call HO3.out hb4)
        have HB4 := hid (bl3 HB3.out hb4 HB3.out.size)
        have HR4 := hid ((hb4.block _ (Array.getElem?_eq_some_iff.1 HR3.out).1).trans HR3.out)
        have h4sz := HB4.out.size
        have hLq := HL.out
        clear hb4 HO3 HB3 HR3 c0 c1 c2
        go_wp2_with (at_builtin; (refine wpList_append_own _ rfl _ _ 24 rfl w.heap.size 43 i0 _ 3 32 Try.underlying24 hi hz0 hz1 hz2 rfl (by decide) _ _ _ rfl (World.ownsRow.alloc HO4.out _) ⟨w4.heap.size, 0, none⟩ 1 1 [_, _, _] rfl rfl (cell_three_at rfl) ?k2 ?k3 ?k4 ?k5 ?_))
        case k2 => exact three_one _ _ _
        case k3 => unfold maxLen; omega
        case k4 => omega
        case k5 => rw [World.size_alloc]; omega
        intro v' w5 hown' hgrow _
        have HB5 := hid ((HB4.out.alloc HB4.out.size _).grown hgrow (by rw [World.size_alloc]; omega) (fun k hk => (HO4.out.lt k hk).1))
        have HO5 : Hid (w5.ownsRow w.heap.size 43 3 v' (prtL F a b (i + 1)).length (pcC (prtL F a b (i + 1)))) := by have h := hown'; rw [HSN2.out] at h; rw [HSL.out]; exact h
        have hr5 : w5.heap[wr.heap.size]? = some (.cells #[.int .i64 p.f, .int .i64 p.l, .string p.d] 43 (0, 0)) := by
          have hl := (Array.getElem?_eq_some_iff.1 HR4.out).1
          rw [hgrow.block _ (by rw [World.size_alloc]; omega) (fun e => HNB.out e.symm), Below.heap_alloc _ _ _ hl]; exact HR4.out
        have HR5 := hid hr5
        have c0 : w5.cell? ⟨wr.heap.size, 0, none⟩ = some (.int .i64 p.f) := cell_of_row _ _ _ _ _ _ HR5.out
        have c1 : w5.cell? ⟨wr.heap.size, 1, none⟩ = some (.int .i64 p.l) := cell_of_row _ _ _ _ _ _ HR5.out
        have c2 : w5.cell? ⟨wr.heap.size, 2, none⟩ = some (.string p.d) := cell_of_row _ _ _ _ _ _ HR5.out
        clear hown' hgrow HO4 HB4 HR4 hr5 HSN2 HSL HPT HNB
        go_wp2_with fail
        refine (HZ2.out _).mono ?_
        rintro e w6 ⟨rfl, hb6⟩
        have HO6 := hid (own3_call HO5.out hb6)
        have HB6 := hid (bl3 HB5.out hb6 HB5.out.size)
        clear hb6 HO5 HB5 HR5 c0 c1 c2
        go_wp2_with fail
        go_roundw
        case rel => exact ⟨i + 1, by omega, by go_num, by rw [HSS.out], HO6.out, HB6.out⟩
        case measure => simp [intN]; omega
      · have HS2 := hid (HSN.out (by omega))
        clear HSY HSN HT2
        go_wp2_with fail
        refine (HZ2.out _).mono ?_
        rintro e w6 ⟨rfl, hb6⟩
        have HO6 := hid (own3_call HO3.out hb6)
        have HB6 := hid (bl3 HB3.out hb6 HB3.out.size)
        clear hb6 HO3 HB3 HR3 c0 c1 c2
        go_wp2_with fail
        go_roundw
        case rel => exact ⟨i + 1, by omega, by go_num, by rw [HSS.out], by rw [HS2.out]; exact HO6.out, HB6.out⟩
        case measure => simp [intN]; omega
    · obtain rfl : i = n := by omega
      go_wp2_with fail
      go_ret
      exact ⟨⟨_, rfl, HO.out.1⟩, HO.out.2⟩
end Go.Proofs.Ytadimakdjndcdae
