/-
  Parts of pieces: the specification's.
-/
import Derived.Test.YtpeddaljgmkomaaPk09
import Derived.Test.YtpeddaljgmkomaaPk16
namespace Go.Proofs.Ytpeddaljgmkomaa
open Go.RowKit
set_option linter.unusedVariables false
set_option linter.unusedSimpArgs false
set_option maxRecDepth 100000 in
set_option maxHeartbeats 4000000 in
theorem sparts_any (v : Value) (n : Nat) (F : Nat → PcI) (a l : Int) (w : World) (hI : PrtIn F n a (a + l)) (h : PcArg w v n F) :
    Calls Try.prog 79 #[v, .int .i64 a, .int .i64 l] w fun e w' => (∃ v', e = .returned v' ∧ w'.ownsRow w.heap.size 89 3 v' (prtL F a (a + l) n).length (pcC (prtL F a (a + l) n))) ∧ Below w.heap.size w w' := by
  obtain ⟨sa, sc, rfl, hr⟩ := h
  have hnI : (n : Int) ≤ 500 := by have := hI.len; omega
  obtain ⟨i0, hi, hz0, hz1, hz2⟩ := info_parts Try.infP
  have HZ : Hid (∀ p w, Calls Try.prog 78 #[pcV p.f p.l p.d] w fun e w' => e = .returned (.int .i64 (pcSz p)) ∧ Below w.heap.size w w') := fun p w => slong_any p w
  unfold pcV at HZ
  have HR : Hid (∀ w', Below w.heap.size w w' → 0 < n → ∃ g, sa = some ⟨g, 0, none⟩ ∧ PcRow w' g n F ∧ g < w.heap.size) := fun w' hb h0 => by
    obtain ⟨g, h1, h2⟩ := hr h0
    exact ⟨g, h1, h2.below hb h2.lt, h2.lt⟩
  have HI := hid hI
  have HB0 : Hid (Below w.heap.size w (w.alloc (.cells #[] 89)) ∧ (w.alloc (.cells #[] 89)).ownsRow w.heap.size 89 3 (.slice (some ⟨w.heap.size, 0, none⟩) 0 0) 0 []) := ⟨(Below.refl _ _).alloc (Nat.le_refl _) _, rfl, Or.inr ⟨w.heap.size, 0, #[], rfl, Nat.le_refl _, heap_alloc_new _ _, Nat.le_refl _, Nat.zero_le _, rfl, rfl⟩⟩
  clear hr hI
  go_enter Try.func79, Try.ntmps79
  go_wp2_with fail
  go_loopw [7, 8, 9] (fun v x t wr => ∃ (i : Nat), i ≤ n ∧ t = .int .i64 (i : Int) ∧ x = .int .i64 (pcSum F i) ∧ Hid (wr.ownsRow w.heap.size 89 3 v (prtL F a (a + l) i).length (pcC (prtL F a (a + l) i)) ∧ Below w.heap.size w wr)) (fun _ _ t _ => n - (intN t).toNat)
  case atStart => exact ⟨0, by omega, rfl, rfl, HB0.out.2, HB0.out.1⟩
  case round =>
    clear HB0
    obtain ⟨i, hi2, rfl, rfl, HO⟩ := hrel
    by_cases hlt : i < n
    · have hltI : (i : Int) < (n : Int) := by omega
      obtain ⟨g, rfl, hrow, hgl⟩ := HR.out _ HO.out.2 (by omega)
      have HGL := hid hgl
      obtain ⟨q, hq⟩ : ∃ q, q = 3 * i := ⟨_, rfl⟩
      have x0 := hrow.c0 i hlt
      have x1 := hrow.c1 i hlt
      have x2 := hrow.c2 i hlt
      rw [← hq] at x0 x1 x2
      have hiq : i * 3 = q := by omega
      have hp := HI.out.ok i hlt
      have b1 := pcSum_le (F := F) (old := 4000) (n := i) (by omega) (fun j hj => HI.out.d j (by omega)) (fun j hj => HI.out.ok j (by omega))
      have b2 := pcP_pos hp
      have b3 := pcP_le hp (by omega) (HI.out.d i hlt)
      have b4 := HI.out.lo
      have b5 := HI.out.hi
      have HSS : Hid (pcSum F (i + 1) = pcSum F i + pcSz (F i)) := rfl
      have hfb : 0 ≤ (F i).f ∧ (F i).f ≤ 4000 := by rcases hp with ⟨_, c1, c2, c3, c4⟩ | ⟨_, c1, c2⟩ <;> omega
      have hszd : (F i).d ≠ ⟨#[]⟩ → pcSz (F i) = ((F i).d.size : Int) := fun h => pcSz_yes h
      obtain ⟨X, hX⟩ : ∃ X, X = pcSum F i := ⟨_, rfl⟩
      obtain ⟨Y, hY⟩ : ∃ Y, Y = pcSz (F i) := ⟨_, rfl⟩
      obtain ⟨lo, hlo⟩ : ∃ lo, lo = lowP F a i := ⟨_, rfl⟩
      obtain ⟨hg, hhg⟩ : ∃ hg, hg = highP F (a + l) i := ⟨_, rfl⟩
      have e7 : lo = max (a - X) 0 := by rw [hlo, hX]; rfl
      have e8 : hg = min (a + l - X) Y := by rw [hhg, hX, hY]; rfl
      have HSY : Hid (lo < hg → prtL F a (a + l) (i + 1) = prtL F a (a + l) i ++ [partI (F i) lo hg]) := fun h => by rw [hlo, hhg] at h ⊢; exact stepP_yes h
      have HSN : Hid (¬ lo < hg → prtL F a (a + l) (i + 1) = prtL F a (a + l) i) := fun h => by rw [hlo, hhg] at h; exact stepP_no h
      have HL : Hid ((prtL F a (a + l) i).length ≤ 500) := by have := prtL_len F a (a + l) i; have := HI.out.len; show _ ≤ _; omega
      have HZ2 : Hid (∀ w, Calls Try.prog 78 #[.agg #[.int .i64 (F i).f, .int .i64 (F i).l, .string (F i).d]] w fun e w' => e = .returned (.int .i64 Y) ∧ Below w.heap.size w w') := fun w => by rw [hY]; exact HZ.out (F i) w
      rw [← hX] at b1 HSS ⊢
      rw [← hY] at b2 b3 HSS hszd
      obtain ⟨ls, hls⟩ : ∃ ls, ls = max a X := ⟨_, rfl⟩
      obtain ⟨hs, hhs⟩ : ∃ hs, hs = min (a + l) (X + Y) := ⟨_, rfl⟩
      have E1 : ls - X = lo := by omega
      have E2 : hs - X = hg := by omega
      have e1 : IntKind.i64.wrap (a + l) = a + l := by rw [IntKind.wrap_i64]; omega
      have e2 : IntKind.i64.wrap (X + Y) = X + Y := by rw [IntKind.wrap_i64]; omega
      have m1 : max a X = ls := hls.symm
      have m2 : min (a + l) (X + Y) = hs := hhs.symm
      have hlsb : 0 ≤ ls ∧ ls ≤ 600000000 := by omega
      have hhsb : 0 ≤ hs ∧ hs ≤ 600000000 := by omega
      have e3 : IntKind.i64.wrap (ls - X) = lo := by rw [IntKind.wrap_i64]; omega
      have e4 : IntKind.i64.wrap (hs - X) = hg := by rw [IntKind.wrap_i64]; omega
      have e5 : IntKind.i64.wrap ((F i).f + ls) = (F i).f + ls := by rw [IntKind.wrap_i64]; omega
      have e6 : IntKind.i64.wrap ((F i).f + ls - X) = (F i).f + lo := by rw [IntKind.wrap_i64]; omega
      have e9 : IntKind.i64.wrap (hs - ls) = hg - lo := by rw [IntKind.wrap_i64]; omega
      have hcc : lo < hg ↔ ls < hs := by omega
      have hlo0 : 0 ≤ lo := by omega
      have hhgY : hg ≤ Y := by omega
      have hwsz := HO.out.2.size
      have HHH := hid hlo0
      clear hrow hq hX hY hlo hhg hls hhs e7 e8 E1 E2 HZ hp b5 hlsb hhsb
      generalize F i = p at x0 x1 x2 HZ2 HSY HSN hszd hfb e5 e6
      go_wp2_with fail
      refine (HZ2.out _).mono ?_
      rintro e w3 ⟨rfl, hb3⟩
      have HO3 := hid (own3_call HO.out.1 hb3)
      have HB3 := hid (bl3 HO.out.2 hb3 HO.out.2.size)
      have y0 : w3.cell? ⟨g, q, none⟩ = some (.int .i64 p.f) := (HB3.out.cell (p := ⟨g, q, none⟩) HGL.out).trans ((HO.out.2.cell (p := ⟨g, q, none⟩) HGL.out).symm.trans x0)
      have y1 : w3.cell? ⟨g, q + 1, none⟩ = some (.int .i64 p.l) := (HB3.out.cell (p := ⟨g, q + 1, none⟩) HGL.out).trans ((HO.out.2.cell (p := ⟨g, q + 1, none⟩) HGL.out).symm.trans x1)
      have y2 : w3.cell? ⟨g, q + 2, none⟩ = some (.string p.d) := (HB3.out.cell (p := ⟨g, q + 2, none⟩) HGL.out).trans ((HO.out.2.cell (p := ⟨g, q + 2, none⟩) HGL.out).symm.trans x2)
      have h3sz := HB3.out.size
      have hLq := HL.out
      clear hb3 HO x0 x1 x2
      by_cases hc : lo < hg
      · have hc2 := hcc.1 hc
        have HS2 := hid (HSY.out hc)
        have HSN2 : Hid (pcC (prtL F a (a + l) i) ++ [.int .i64 (partI p lo hg).f, .int .i64 (partI p lo hg).l, .string (partI p lo hg).d] = pcC (prtL F a (a + l) (i + 1))) := by rw [HS2.out]; exact pcC_snoc _ _
        have HSL : Hid ((prtL F a (a + l) (i + 1)).length = (prtL F a (a + l) i).length + 1) := by rw [HS2.out, List.length_append]; exact rfl
        clear HS2 HSY HSN hcc HL
        generalize hQ : prtL F a (a + l) i = Q at HO3 HSN2 HSL hLq
        clear hQ
        by_cases hd : p.d = ⟨#[]⟩
        · rw [partI_no hd] at HSN2
          rw [hd] at y2
          clear hszd hd
          go_wp2_with (at_builtin; (refine wpList_append_own _ rfl _ _ 52 rfl w.heap.size 89 i0 _ 3 32 Try.underlying52 hi hz0 hz1 hz2 rfl (by decide) _ _ _ rfl (World.ownsRow.alloc HO3.out _) ⟨w3.heap.size, 0, none⟩ 1 1 [_, _, _] rfl rfl (cell_three_at rfl) ?k2 ?k3 ?k4 ?k5 ?_))
          case k2 => exact three_one _ _ _
          case k3 => unfold maxLen; omega
          case k4 => omega
          case k5 => rw [World.size_alloc]; omega
          intro v' w5 hown' hgrow _
          have HB5 := hid ((HB3.out.alloc HB3.out.size _).grown hgrow (by rw [World.size_alloc]; omega) (fun k hk => (HO3.out.lt k hk).1))
          have HO5 : Hid (w5.ownsRow w.heap.size 89 3 v' (prtL F a (a + l) (i + 1)).length (pcC (prtL F a (a + l) (i + 1)))) := by have h := hown'; rw [HSN2.out] at h; rw [HSL.out]; exact h
          clear hown' hgrow HO3 HB3 HSN2 HSL
          go_wp2_with fail
          go_roundw
          case rel => exact ⟨i + 1, by omega, by go_num, by rw [HSS.out], HO5.out, HB5.out⟩
          case measure => simp [intN]; omega
        · rw [partI_yes hd] at HSN2
          have he := d_ne hd
          have hsz := hszd hd
          obtain ⟨lo2, hl2⟩ : ∃ lo2 : Nat, lo = (lo2 : Int) := ⟨lo.toNat, by omega⟩
          obtain ⟨hg2, hh2⟩ : ∃ hg2 : Nat, hg = (hg2 : Int) := ⟨hg.toNat, by omega⟩
          rw [hl2, hh2] at HSN2
          simp only [Int.toNat_natCast] at HSN2
          rw [hl2] at e3
          rw [hh2] at e4
          have s1 : lo2 ≤ hg2 := by omega
          have s2 : hg2 ≤ p.d.size := by omega
          have s1I : (lo2 : Int) ≤ (hg2 : Int) := by omega
          have s2I : (hg2 : Int) ≤ (p.d.size : Int) := by omega
          clear hszd hd hl2 hh2 hsz hc hhgY hlo0 e6 e9
          go_wp2_with (at_builtin; (refine wpList_append_own _ rfl _ _ 52 rfl w.heap.size 89 i0 _ 3 32 Try.underlying52 hi hz0 hz1 hz2 rfl (by decide) _ _ _ rfl (World.ownsRow.alloc HO3.out _) ⟨w3.heap.size, 0, none⟩ 1 1 [_, _, _] rfl rfl (cell_three_at rfl) ?k2 ?k3 ?k4 ?k5 ?_))
          case k2 => exact three_one _ _ _
          case k3 => unfold maxLen; omega
          case k4 => omega
          case k5 => rw [World.size_alloc]; omega
          intro v' w5 hown' hgrow _
          have HB5 := hid ((HB3.out.alloc HB3.out.size _).grown hgrow (by rw [World.size_alloc]; omega) (fun k hk => (HO3.out.lt k hk).1))
          have HO5 : Hid (w5.ownsRow w.heap.size 89 3 v' (prtL F a (a + l) (i + 1)).length (pcC (prtL F a (a + l) (i + 1)))) := by have h := hown'; rw [HSN2.out] at h; rw [HSL.out]; exact h
          clear hown' hgrow HO3 HB3 HSN2 HSL
          go_wp2_with fail
          go_roundw
          case rel => exact ⟨i + 1, by omega, by go_num, by rw [HSS.out], HO5.out, HB5.out⟩
          case measure => simp [intN]; omega
      · have hc2 : ¬ ls < hs := fun c => hc (hcc.2 c)
        have HS2 := hid (HSN.out (by omega))
        clear HSY HSN hcc HL
        go_wp2_with fail
        go_roundw
        case rel => exact ⟨i + 1, by omega, by go_num, by rw [HSS.out], by rw [HS2.out]; exact HO3.out, HB3.out⟩
        case measure => simp [intN]; omega
    · obtain rfl : i = n := by omega
      go_wp2_with fail
      go_ret
      exact ⟨⟨_, rfl, HO.out.1⟩, HO.out.2⟩
end Go.Proofs.Ytpeddaljgmkomaa
