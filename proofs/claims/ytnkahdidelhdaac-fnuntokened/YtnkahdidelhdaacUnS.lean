/-
  The text of tokens: the specification's.
-/
import Derived.Test.YtnkahdidelhdaacUnC
import Derived.Test.YtnkahdidelhdaacTokS
import Derived.Laws.MakeOwn
import Derived.Laws.OwnMore
namespace Go.Proofs.Ytnkahdidelhdaac
open Go.RowKit
set_option linter.unusedVariables false
set_option linter.unusedSimpArgs false

set_option maxRecDepth 100000 in
set_option maxHeartbeats 4000000 in
theorem sun_some (g c n : Nat) (F : Nat → TkI) (w : World) (hn : n ≤ 4000) (hrow : TkRow w g n F) :
    Calls Try.prog 27 #[.slice (some ⟨g, 0, none⟩) n c] w fun e w' => e = .returned (unAns (unPre F n)) ∧ Below w.heap.size w w' := by
  obtain ⟨i0, hi0, hz0, hz1, hz2⟩ := info_parts Try.infb8
  have hnI : (n : Int) ≤ 4000 := by omega
  have hnI2 : ¬ (4000 : Int) < (n : Int) := by omega
  have HT : Hid (∀ w' B, Below B w w' → w.heap.size ≤ B → TkRow w' g n F) := fun w' B hb hB => hrow.below hb (Nat.lt_of_lt_of_le hrow.lt hB)
  have HTY : Hid (∀ k b d l h w, tokP k b d l h → Calls Try.prog 49 #[tokV k b d l, .int .i64 h] w fun e w' => e = .returned (.bool true) ∧ Below w.heap.size w w') := fun k b d l h w hp => stok_yes k b d l h w hp
  have HTN : Hid (∀ k b d l h w, ¬ tokP k b d l h → Calls Try.prog 49 #[tokV k b d l, .int .i64 h] w fun e w' => e = .returned (.bool false) ∧ Below w.heap.size w w') := fun k b d l h w hp => stok_no k b d l h w hp
  unfold tokV at HTY HTN
  have hit : Option.map (·.size) (Try.prog.info? 44) = some 4 := by kernel_rfl
  go_enter Try.func27, Try.ntmps27
  go_wp2_with fail
  go_loopw [4, 5] (fun v x wr => ∃ (i : Nat) (o : List Nat), i ≤ n ∧ x = .int .i64 (i : Int) ∧ Hid (unPre F i = some o ∧ wr.ownsRow w.heap.size 5 1 v o.length (bL o) ∧ Below w.heap.size w wr)) (fun _ x _ => n - (lonIntOf x).toNat)
  case atStart => exact ⟨0, [], by omega, rfl, rfl, World.ownsRow_made w #[] 0 (Nat.le_refl _) (by unfold maxLen; omega) rfl, (Below.refl _ _).alloc (Nat.le_refl _) _⟩
  case round =>
    obtain ⟨i, o, hi, rfl, HR⟩ := hrel
    obtain ⟨hbo, hlo⟩ := unPre_bytes HR.out.1
    have HBO : Hid (AllB o) := hbo
    have hloI : (o.length : Int) ≤ 4000 := by omega
    clear hbo
    obtain ⟨a, cv, rfl⟩ := own_len1 HR.out.2.1
    by_cases hlt : i < n
    · have hltI : (i : Int) < (n : Int) := by omega
      obtain ⟨q, hq⟩ : ∃ q, q = 4 * i := ⟨_, rfl⟩
      have hr := HT.out wr w.heap.size HR.out.2.2 (Nat.le_refl _)
      have x0 := hr.c0 i hlt
      have x1 := hr.c1 i hlt
      have x2 := hr.c2 i hlt
      have x3 := hr.c3 i hlt
      rw [← hq] at x0 x1 x2 x3
      have hiq : i * 4 = q := by omega
      have HST := unPre_step HR.out.1
      have HST : Hid (unPre F (i + 1) = unT o (F i)) := HST
      clear hr hq
      generalize hF : F i = t at x0 x1 x2 x3 HST
      obtain ⟨k, b, d, l⟩ := t
      simp only at x0 x1 x2 x3
      clear hF
      go_wp2_with fail
      have HNO : Hid (unT o ⟨k, b, d, l⟩ = none → unPre F n = none) := fun h => by
        have := unPre_none (HST.out.trans h) (n - (i + 1))
        rwa [show i + 1 + (n - (i + 1)) = n by omega] at this
      by_cases hp : tokP k b d l (o.length : Int)
      · refine (HTY.out k b d l _ _ hp).mono ?_
        rintro e w3 ⟨rfl, hb3⟩
        have hr3 : Hid (w3.heap[wr.heap.size]? = some (.cells #[.int .i64 k, .int .i64 b, .int .i64 d, .int .i64 l] 44 (0, 0))) := (hb3.block _ (by simp)).trans (heap_alloc_new wr _)
        have hb1 : Below w.heap.size w (wr.alloc (.cells #[.int .i64 k, .int .i64 b, .int .i64 d, .int .i64 l] 44)) := HR.out.2.2.alloc HR.out.2.2.size _
        have H3 : Hid (w3.ownsRow w.heap.size 5 1 (.slice a o.length cv) o.length (bL o) ∧ Below w.heap.size w w3) := ⟨owns_call1 (HR.out.2.1.alloc _) hb3, bl_trans3 hb1 hb3 hb1.size⟩
        have HP : Hid (tokP k b d l (o.length : Int)) := hp
        have hgl : w.heap.size ≤ w3.heap.size := H3.out.2.size
        have HYES : Hid (∀ o2, tkOut o ⟨k, b, d, l⟩ = o2 → o2.length ≤ 4000 → unPre F (i + 1) = some o2) := fun o2 e h => by
          subst e; exact HST.out.trans (unT_yes HP.out h)
        have HLONG : Hid (∀ o2, tkOut o ⟨k, b, d, l⟩ = o2 → ¬ o2.length ≤ 4000 → unPre F n = none) := fun o2 e h => by
          subst e; exact HNO.out (unT_long h)
        clear HST HNO
        have y0 : w3.cell? ⟨wr.heap.size, 0, none⟩ = some (.int .i64 k) := cell_of_row w3 _ 0 _ _ _ hr3.out
        have y1 : w3.cell? ⟨wr.heap.size, 1, none⟩ = some (.int .i64 b) := cell_of_row w3 _ 1 _ _ _ hr3.out
        have y3 : w3.cell? ⟨wr.heap.size, 3, none⟩ = some (.int .i64 l) := cell_of_row w3 _ 3 _ _ _ hr3.out
        clear hb3 hb1 HR x0 x1 x2 x3 hp
        by_cases hk : k = 0
        · obtain ⟨_, ⟨_, hb1, hb2, rfl, rfl⟩ | ⟨c, _⟩⟩ := HP.out
          · subst hk
            obtain ⟨bn, rfl⟩ := Int.eq_ofNat_of_zero_le hb1
            have hwb : IntKind.u8.wrap (bn : Int) = (bn : Int) := by rw [IntKind.wrap_u8]; omega
            have HOW := H3.out.1
            have HEQ : Hid (tkOut o ⟨0, (bn : Int), 0, 0⟩ = o ++ [bn]) := by show (if _ then _ else _) = _; rw [if_pos rfl, Int.toNat_natCast]
            go_wp2_with (at_builtin; (refine wpList_append_own _ rfl _ _ 22 rfl w.heap.size 5 i0 _ 1 1 Try.underlying22 hi0 hz0 hz1 hz2 rfl (by decide) _ _ _ rfl (HOW.alloc _) ⟨w3.heap.size, 0, none⟩ 1 1 [_] rfl rfl (cell_at_new _ _ _ _ ?c1) ?c2 ?c3 ?c4 ?c5 ?_))
            case c1 => rfl
            case c2 => exact byte_one _
            case c3 => unfold maxLen; omega
            case c4 => omega
            case c5 => simp; omega
            intro v' w4 hown' hgrow _
            rw [bL_snoc] at hown'
            obtain ⟨a', c', rfl⟩ := own_len1 hown'
            have H4 : Hid (w4.ownsRow w.heap.size 5 1 (.slice a' (o.length + 1) c') (o ++ [bn]).length (bL (o ++ [bn])) ∧ Below w.heap.size w w4) := ⟨by rw [List.length_append]; exact hown', (H3.out.2.alloc hgl _).grown hgrow (by simp; omega) (fun k hk => (HOW.lt k hk).1)⟩
            have hl3 := (Array.getElem?_eq_some_iff.1 hr3.out).1
            have y4 : w4.cell? ⟨wr.heap.size, 3, none⟩ = some (.int .i64 0) := cell_of_row w4 _ 3 _ _ _ ((hgrow.block _ (by simp; omega) (own_apart HOW hr3.out)).trans ((Below.heap_alloc _ _ _ hl3).trans hr3.out))
            clear hown' hgrow HOW H3 hr3 y0 y1 y3 hl3
            go_wp2_with fail
            go_loopw [4, 7, 8] (fun v c y wx => v = .slice a' (o.length + 1) c' ∧ c = .int .i64 0 ∧ wx = w4) (fun _ _ _ _ => 0)
            case atStart => exact ⟨rfl, rfl, rfl⟩
            rename World => wx
            obtain ⟨rfl, rfl, rfl⟩ := hrel
            by_cases h4 : o.length + 1 ≤ 4000
            · have h4I : ¬ (4000 : Int) < (o.length : Int) + 1 := by omega
              have h4J : ¬ (4000 : Int) < ((o.length + 1 : Nat) : Int) := by omega
              have HS1 : Hid (unPre F (i + 1) = some (o ++ [bn])) := HYES.out _ HEQ.out (by rw [List.length_append]; exact h4)
              go_wp2_with fail
              go_roundw
              case rel => exact ⟨i + 1, o ++ [bn], by omega, by go_num, HS1.out, H4.out.1, H4.out.2⟩
              case measure => simp [lonIntOf]; omega
            · have h4I : (4000 : Int) < (o.length : Int) + 1 := by omega
              have h4J : (4000 : Int) < ((o.length + 1 : Nat) : Int) := by omega
              have HN : Hid (unPre F n = none) := HLONG.out _ HEQ.out (by rw [List.length_append]; exact h4)
              go_wp2_with fail
              go_ret2
              exact ⟨by rw [HN.out]; rfl, H4.out.2⟩
          · omega
        · obtain ⟨_, ⟨c, _⟩ | ⟨hk1, hb0, hd1, hd2, hd3, hl1, hl2⟩⟩ := HP.out
          · omega
          · subst hk1 hb0
            obtain ⟨dn, rfl⟩ := Int.eq_ofNat_of_zero_le (a := d) (by omega)
            obtain ⟨ln, rfl⟩ := Int.eq_ofNat_of_zero_le (a := l) (by omega)
            have HEQ : Hid (tkOut o ⟨1, 0, (dn : Int), (ln : Int)⟩ = cpI dn o ln) := by show (if _ then _ else _) = _; rw [if_neg (show ¬ (1 : Int) = 0 by decide), Int.toNat_natCast, Int.toNat_natCast]
            have HU : Hid (UW o dn 0 w.heap.size wr.heap.size ln w w3 (.slice a o.length cv)) := ⟨H3.out.1, H3.out.2, hr3.out⟩
            clear H3 hr3 y1 y3 HP hk
            generalize wr.heap.size = g0 at HU y0 ⊢
            generalize Value.slice a o.length cv = v0 at HU ⊢
            go_wp2_with fail
            go_loopw [4, 7, 8] (fun v c y wx => ∃ (j : Nat), j ≤ ln ∧ c = .int .i64 (j : Int) ∧ Hid (UW o dn j w.heap.size g0 ln w wx v)) (fun _ c _ _ => ln - (lonIntOf c).toNat)
            case atStart => exact ⟨0, by omega, rfl, HU⟩
            case round =>
              rename World => wx
              clear HU
              obtain ⟨j, hj, rfl, HU⟩ := hrel
              have x3 : wx.cell? ⟨g0, 3, none⟩ = some (.int .i64 (ln : Int)) := cell_of_row wx _ 3 _ _ _ HU.out.box
              by_cases hlj : j < ln
              · have hltJ : (j : Int) < (ln : Int) := by omega
                have hBw : w.heap.size ≤ wx.heap.size := HU.out.below.size
                obtain ⟨gg, cap, cur, rfl, _, _, hcell⟩ := own_form1 HU.out.own (by omega)
                obtain ⟨qq, hq⟩ : ∃ q, o.length + j = q + dn := ⟨o.length + j - dn, by omega⟩
                have hcl := cpI_len dn o j
                have x0 := hcell qq _ (bL_at (cpI dn o j) qq (by omega))
                have x1 : wx.cell? ⟨g0, 2, none⟩ = some (.int .i64 (dn : Int)) := cell_of_row wx _ 2 _ _ _ HU.out.box
                have hqe : (cpI dn o j).length - dn = qq := by omega
                have HOW := HU.out.own
                have HNX : Hid (∀ v' w4, w4.ownsRow w.heap.size 5 1 v' (o.length + j + 1) (bL (cpI dn o j) ++ [.int .u8 (((cpI dn o j).getD qq 0 : Nat) : Int)]) → (wx.alloc (.cells #[.int .u8 (((cpI dn o j).getD qq 0 : Nat) : Int)] 5)).grownBy w4 (Value.slice (some ⟨gg, 0, none⟩) (o.length + j) cap).ownBlock → UW o dn (j + 1) w.heap.size g0 ln w w4 v') := fun v' w4 h1 h2 => by
                  refine HU.out.put hBw _ ?_ h2
                  rw [hqe]; exact h1
                have hn4 : o.length + j ≤ 4066 := by omega
                generalize (cpI dn o j).getD qq 0 = c at x0 HNX
                generalize o.length + j = m at HOW hq x0 HNX hn4
                have hwn : IntKind.i64.wrap ((m : Int) - (dn : Int)) = (qq : Int) := by rw [IntKind.wrap_i64]; omega
                have hqn : (qq : Int) < (m : Int) := by omega
                have hqN : qq < m := by omega
                clear hcell hcl hqe hq HU
                go_wp2_with (at_builtin; (refine wpList_append_own _ rfl _ _ 22 rfl w.heap.size 5 i0 _ 1 1 Try.underlying22 hi0 hz0 hz1 hz2 rfl (by decide) _ _ _ rfl (HOW.alloc _) ⟨wx.heap.size, 0, none⟩ 1 1 [_] rfl rfl (cell_at_new _ _ _ _ ?c1) ?c2 ?c3 ?c4 ?c5 ?_))
                case c1 => rfl
                case c2 => exact byte_one _
                case c3 => unfold maxLen; omega
                case c4 => omega
                case c5 => simp; omega
                intro v' w4 hown' hgrow _
                have H4 : Hid (UW o dn (j + 1) w.heap.size g0 ln w w4 v') := HNX.out v' w4 hown' hgrow
                clear hown' hgrow HOW HNX x0 x1
                go_wp2_with fail
                go_roundw
                case rel => exact ⟨j + 1, by omega, by go_num, H4⟩
                case measure => simp [lonIntOf]; omega
              · obtain rfl : j = ln := by omega
                obtain ⟨a', c', rfl⟩ := own_len1 HU.out.own
                have H4 : Hid (wx.ownsRow w.heap.size 5 1 (.slice a' (o.length + j) c') (cpI dn o j).length (bL (cpI dn o j)) ∧ Below w.heap.size w wx) := ⟨by rw [cpI_len]; exact HU.out.own, HU.out.below⟩
                have hcl := cpI_len dn o j
                by_cases h4 : o.length + j ≤ 4000
                · have HS1 : Hid (unPre F (i + 1) = some (cpI dn o j)) := HYES.out _ HEQ.out (by omega)
                  clear HYES HLONG HU HEQ
                  generalize cpI dn o j = o2 at H4 HS1 hcl
                  rw [← hcl] at H4 h4 ⊢
                  clear hcl
                  have h4I : ¬ (4000 : Int) < (o2.length : Int) := by omega
                  go_wp2_with fail
                  go_roundw
                  case rel => exact ⟨i + 1, o2, by omega, by go_num, HS1.out, H4.out.1, H4.out.2⟩
                  case measure => simp [lonIntOf]; omega
                · have HN : Hid (unPre F n = none) := HLONG.out _ HEQ.out (by omega)
                  clear HYES HLONG HU HEQ
                  generalize cpI dn o j = o2 at H4 hcl
                  rw [← hcl] at H4 h4 ⊢
                  clear hcl
                  have h4I : (4000 : Int) < (o2.length : Int) := by omega
                  go_wp2_with fail
                  go_ret2
                  exact ⟨by rw [HN.out]; rfl, H4.out.2⟩
      · refine (HTN.out k b d l _ _ hp).mono ?_
        rintro e w3 ⟨rfl, hb3⟩
        have hb1 : Below w.heap.size w (wr.alloc (.cells #[.int .i64 k, .int .i64 b, .int .i64 d, .int .i64 l] 44)) := HR.out.2.2.alloc HR.out.2.2.size _
        have H3 : Hid (Below w.heap.size w w3) := bl_trans3 hb1 hb3 hb1.size
        have HN : Hid (unPre F n = none) := HNO.out (unT_no hp)
        clear hb3 hb1 HR x0 x1 x2 x3 hp HNO HST
        go_wp2_with fail
        go_ret2
        exact ⟨by rw [HN.out]; rfl, H3.out⟩
    · obtain rfl : i = n := by omega
      have HCV : Hid ((convert 22 9 (.slice a o.length cv)).run Try.prog wr = .ok (.string (strL o)) wr) := own_str HBO.out HR.out.2.1
      have hcv := HCV.out
      have HP : Hid (unPre F i = some o) := HR.out.1
      have HB : Hid (Below w.heap.size w wr) := HR.out.2.2
      clear HR HCV
      go_wp2_with fail
      go_ret2
      exact ⟨by rw [HP.out]; rfl, HB.out⟩
set_option maxRecDepth 100000 in
theorem sun_long (a : Option Addr) (c n : Nat) (w : World) (hn : 4000 < n) :
    Calls Try.prog 27 #[.slice a n c] w fun e w' => e = .returned (unAns none) ∧ Below w.heap.size w w' := by
  have hnI : (4000 : Int) < (n : Int) := by omega
  go_enter Try.func27, Try.ntmps27
  go_wp2_with fail
  go_ret2
  exact ⟨rfl, Below.refl _ _⟩
set_option maxRecDepth 100000 in
theorem sun_zero (a : Option Addr) (c : Nat) (w : World) :
    Calls Try.prog 27 #[.slice a 0 c] w fun e w' => e = .returned (unAns (some [])) ∧ Below w.heap.size w w' := by
  have hcv : (convert 22 9 (.slice (some ⟨w.heap.size, 0, none⟩) 0 0)).run Try.prog (w.alloc (.cells #[] 5)) = .ok (.string (strL [])) (w.alloc (.cells #[] 5)) := own_str (o := []) (B := w.heap.size) (fun x hx => (by cases hx)) (World.ownsRow_made w #[] 0 (Nat.le_refl _) (by unfold maxLen; omega) rfl)
  go_enter Try.func27, Try.ntmps27
  go_wp2_with fail
  refine wp_loop_rounds 1 ?_
  rw [rounds_succ]
  go_wp2_with fail
  go_ret2
  exact ⟨rfl, (Below.refl _ _).alloc (Nat.le_refl _) _⟩
theorem sun_any (v : Value) (n : Nat) (F : Nat → TkI) (w : World) (h : TkArg w v n F) :
    Calls Try.prog 27 #[v] w fun e w' => e = .returned (unAns (unOf F n)) ∧ Below w.heap.size w w' := by
  obtain ⟨a, c, rfl, hr⟩ := h
  unfold unOf
  by_cases hn : n ≤ 4000
  · rw [if_pos hn]
    by_cases h0 : 0 < n
    · obtain ⟨g, rfl, hrow⟩ := hr h0
      exact sun_some g c n F w hn hrow
    · obtain rfl : n = 0 := by omega
      exact sun_zero a c w
  · rw [if_neg hn]
    exact sun_long a c n w (by omega)
end Go.Proofs.Ytnkahdidelhdaac
