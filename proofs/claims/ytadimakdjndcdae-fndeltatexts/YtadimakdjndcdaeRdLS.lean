/-
  ReadDelta: the specification's.
-/
import Derived.Test.YtadimakdjndcdaeRdLC
import Derived.Test.YtadimakdjndcdaePcsS
namespace Go.Proofs.Ytadimakdjndcdae
open Go.RowKit
set_option linter.unusedVariables false
set_option linter.unusedSimpArgs false
theorem row_ltR {w : World} {g : Nat} {o : Obj} (h : w.heap[g]? = some o) : g < w.heap.size := (Array.getElem?_eq_some_iff.1 h).1
theorem numI_empty : numI ⟨#[]⟩ = none := rfl
set_option maxRecDepth 100000 in
set_option maxHeartbeats 4000000 in
theorem srdd_any (s : ByteArray) (w : World) (hs : s.size ≤ 1048576) :
    Calls Try.prog 17 #[.string s] w fun e w' => RdPost w (rdD s) e w' := by
  have HN0 : Hid (∀ w, Calls Try.prog 38 #[.string s] w fun e w' => e = .returned (numIV (numI s)) ∧ Below w.heap.size w w') := fun w => snumI_any s w hs
  have HN : Hid (∀ (r : ByteArray) w, r.size ≤ 1048576 → Calls Try.prog 38 #[.string r] w fun e w' => e = .returned (numIV (numI r)) ∧ Below w.heap.size w w') := fun r w h => snumI_any r w h
  have HT : Hid (∀ (r : ByteArray) w, r.size ≤ 1048576 → Calls Try.prog 39 #[.string r] w fun e w' => e = .returned (datIV (datI r)) ∧ Below w.heap.size w w') := fun r w h => stext_datI r w h
  obtain ⟨i0, hi, hz0, hz1, hz2⟩ := info_parts Try.infP
  cases hn : numI s with
  | none =>
    have HR : Hid (rdD s = none) := rdD_no1 hn
    rw [hn] at HN0
    unfold numIV at HN0
    clear hn
    go_enter Try.func17, Try.ntmps17
    go_wp2_with fail
    refine (HN0.out _).mono ?_
    rintro e w1 ⟨rfl, hb1⟩
    go_wp2_with fail
    go_ret2
    exact RdPost.no HR.out hb1
  | some p =>
    obtain ⟨n, r0⟩ := p
    obtain ⟨hnb, hr0⟩ := numI_bd hn
    rw [hn] at HN0
    unfold numIV at HN0
    by_cases hn5 : n ≤ 500
    · have hnI : ¬ (500 : Int) < (n : Int) := by omega
      have HNS : Hid (numI s = some (n, r0) ∧ n ≤ 500) := ⟨hn, hn5⟩
      clear hn
      go_enter Try.func17, Try.ntmps17
      go_wp2_with fail
      refine (HN0.out _).mono ?_
      rintro e w1 ⟨rfl, hb1⟩
      have HB1 : Hid (Below w.heap.size w (w1.alloc (.cells #[] 43)) ∧ (w1.alloc (.cells #[] 43)).ownsRow w.heap.size 43 3 (.slice (some ⟨w1.heap.size, 0, none⟩) 0 0) 0 []) := ⟨hb1.alloc hb1.size _, rfl, Or.inr ⟨w1.heap.size, 0, #[], rfl, hb1.size, heap_alloc_new _ _, Nat.le_refl _, Nat.zero_le _, rfl, rfl⟩⟩
      clear hb1 HN0
      go_wp2_with fail
      go_loopw [5, 7, 8] (fun x v t wr => ∃ (i : Nat) (L : List PcI) (r : ByteArray), i ≤ n ∧ t = .int .i64 (i : Int) ∧ x = .string r ∧ Hid (piesI r0 i = some (L, r)) ∧ Hid (wr.ownsRow w.heap.size 43 3 v L.length (pcC L) ∧ Below w.heap.size w wr)) (fun _ _ t _ => n - (intN t).toNat)
      case atStart => exact ⟨0, [], r0, by omega, rfl, rfl, rfl, HB1.out.2, HB1.out.1⟩
      case round =>
        clear HB1
        obtain ⟨i, L, r, hi2, rfl, rfl, HPI, HO⟩ := hrel
        obtain ⟨bl, br, bd⟩ := piesI_bd HPI.out
        by_cases hlt : i < n
        · have hltI : (i : Int) < (n : Int) := by omega
          have hrs : r.size ≤ 1048576 := by omega
          have hLl : L.length ≤ 500 := by omega
          have HSTOP : Hid (pieI r = none → rdD s = none) := fun hp => rdD_no3 HNS.out.1 (by
            have h := piesI_none (piesI_stop HPI.out hp) (n - (i + 1))
            rwa [show i + 1 + (n - (i + 1)) = n by omega] at h)
          clear bd
          cases hd : datI r with
          | none =>
            have HR : Hid (rdD s = none) := HSTOP.out (pieI_bad hd)
            go_wp2_with fail
            refine (HT.out r _ hrs).mono ?_
            rintro e w2 ⟨rfl, hb2⟩
            have HB2 := hid (bl3 HO.out.2 hb2 HO.out.2.size)
            rw [hd]
            unfold datIV
            clear hd hb2 HO HPI
            go_wp2_with fail
            go_ret2
            exact RdPost.no HR.out HB2.out
          | some q =>
            obtain ⟨d, a⟩ := q
            obtain ⟨hds, has⟩ := datI_bd hd
            go_wp2_with fail
            refine (HT.out r _ hrs).mono ?_
            rintro e w2 ⟨rfl, hb2⟩
            have HB2 := hid (bl3 HO.out.2 hb2 HO.out.2.size)
            have hown2 := own3_call HO.out.1 hb2
            have HO3 := hid (World.ownsRow.alloc hown2 (.cells #[.int .i64 0, .int .i64 0, .string d] 43))
            have HB3 := hid (HB2.out.alloc HB2.out.size (.cells #[.int .i64 0, .int .i64 0, .string d] 43))
            have HNB := hid (own3_ne hown2 (Nat.le_refl _))
            have HR3 := hid (heap_alloc_new w2 (.cells #[.int .i64 0, .int .i64 0, .string d] 43))
            have HDD : Hid (datI r = some (d, a)) := hd
            have h2sz := HB2.out.size
            rw [hd]
            unfold datIV
            clear hd hb2 HO hown2 HB2
            by_cases hde : d = ⟨#[]⟩
            · subst hde
              go_wp2_with fail
              refine (HN.out a _ (by omega)).mono ?_
              rintro e w4 ⟨rfl, hb4⟩
              have HO4 := hid (own3_call HO3.out hb4)
              have HB4 := hid (bl3 HB3.out hb4 HB3.out.size)
              have HR4 := hid ((hb4.block _ (by simp)).trans HR3.out)
              have h4sz := hb4.size
              rw [World.size_alloc] at h4sz
              clear hb4 HO3 HB3 HR3
              cases hn1 : numI a with
              | none =>
                have HR : Hid (rdD s = none) := HSTOP.out (pieI_no1 HDD.out hn1)
                unfold numIV
                clear hn1
                go_wp2_with fail
                refine (HN.out ⟨#[]⟩ _ (Nat.zero_le _)).mono ?_
                rintro e w5 ⟨rfl, hb5⟩
                have HB5 := hid (bl3 HB4.out hb5 HB4.out.size)
                rw [numI_empty]
                unfold numIV
                clear hb5 HO4 HB4 HR4 HPI
                go_wp2_with fail
                go_ret2
                exact RdPost.no HR.out HB5.out
              | some q1 =>
                obtain ⟨f, b⟩ := q1
                have hbs := (numI_bd hn1).2
                have HN1 : Hid (numI a = some (f, b)) := hn1
                unfold numIV
                clear hn1
                go_wp2_with fail
                refine (HN.out b _ (by omega)).mono ?_
                rintro e w5 ⟨rfl, hb5⟩
                have HO5 := hid (own3_call HO4.out hb5)
                have HB5 := hid (bl3 HB4.out hb5 HB4.out.size)
                have hr5 := (hb5.block _ (row_ltR HR4.out)).trans HR4.out
                have h5sz := hb5.size
                clear hb5 HO4 HB4 HR4
                cases hn2 : numI b with
                | none =>
                  have HR : Hid (rdD s = none) := HSTOP.out (pieI_no2 HDD.out HN1.out hn2)
                  unfold numIV
                  clear hn2 hr5 HO5 HPI
                  go_wp2_with fail
                  go_ret2
                  exact RdPost.no HR.out HB5.out
                | some q2 =>
                  obtain ⟨l, c⟩ := q2
                  have b0 : w5.cell? ⟨w2.heap.size, 0, none⟩ = some (.int .i64 0) := cell_of_row _ _ _ _ _ _ hr5
                  have b1 : w5.cell? ⟨w2.heap.size, 1, none⟩ = some (.int .i64 0) := cell_of_row _ _ _ _ _ _ hr5
                  have z0 := frozen_of_row w5 w2.heap.size 0 _ _ hr5
                  have z1 := frozen_of_row w5 w2.heap.size 1 _ _ hr5
                  have hr6 : ((w5.setCell ⟨w2.heap.size, 0, none⟩ (.int .i64 (f : Int))).setCell ⟨w2.heap.size, 1, none⟩ (.int .i64 (l : Int))).heap[w2.heap.size]? = some (.cells #[.int .i64 (f : Int), .int .i64 (l : Int), .string ⟨#[]⟩] 43 (0, 0)) := heap_setCell_same _ _ _ _ _ _ (heap_setCell_same _ _ _ _ _ _ hr5)
                  have c0 : ((w5.setCell ⟨w2.heap.size, 0, none⟩ (.int .i64 (f : Int))).setCell ⟨w2.heap.size, 1, none⟩ (.int .i64 (l : Int))).cell? ⟨w2.heap.size, 0, none⟩ = some (.int .i64 (f : Int)) := cell_of_row _ _ _ _ _ _ hr6
                  have c1 : ((w5.setCell ⟨w2.heap.size, 0, none⟩ (.int .i64 (f : Int))).setCell ⟨w2.heap.size, 1, none⟩ (.int .i64 (l : Int))).cell? ⟨w2.heap.size, 1, none⟩ = some (.int .i64 (l : Int)) := cell_of_row _ _ _ _ _ _ hr6
                  have c2 : ((w5.setCell ⟨w2.heap.size, 0, none⟩ (.int .i64 (f : Int))).setCell ⟨w2.heap.size, 1, none⟩ (.int .i64 (l : Int))).cell? ⟨w2.heap.size, 2, none⟩ = some (.string ⟨#[]⟩) := cell_of_row _ _ _ _ _ _ hr6
                  have HO6 := hid (own3_set (own3_set HO5.out HNB.out 0 (.int .i64 (f : Int))) HNB.out 1 (.int .i64 (l : Int)))
                  have HB6 := hid ((HB5.out.setCell (p := ⟨w2.heap.size, 0, none⟩) h2sz (.int .i64 (f : Int))).setCell (p := ⟨w2.heap.size, 1, none⟩) h2sz (.int .i64 (l : Int)))
                  have HSZ : Hid (((w5.setCell ⟨w2.heap.size, 0, none⟩ (.int .i64 (f : Int))).setCell ⟨w2.heap.size, 1, none⟩ (.int .i64 (l : Int))).heap.size = w5.heap.size) := by show _ = _; simp
                  have hBsz := HB6.out.size
                  have HST : Hid (piesI r0 (i + 1) = some (L ++ [PcI.mk (f : Int) (l : Int) ⟨#[]⟩], c)) := piesI_go HPI.out (pieI_yes HDD.out HN1.out hn2)
                  have HSN : Hid (pcC L ++ [.int .i64 (f : Int), .int .i64 (l : Int), .string ⟨#[]⟩] = pcC (L ++ [PcI.mk (f : Int) (l : Int) ⟨#[]⟩])) := pcC_snoc L ⟨(f : Int), (l : Int), ⟨#[]⟩⟩
                  clear HPI
                  unfold numIV
                  clear hn2 hr5 hr6 HO5 HB5 HNB
                  go_wp2_with (at_builtin; (refine wpList_append_own _ rfl _ _ 24 rfl w.heap.size 43 i0 _ 3 32 Try.underlying24 hi hz0 hz1 hz2 rfl (by decide) _ _ _ rfl (HO6.out.alloc _) ⟨w5.heap.size, 0, none⟩ 1 1 [_, _, _] rfl rfl (cell_three_at HSZ.out) ?k2 ?k3 ?k4 ?k5 ?_))
                  case k2 => exact three_one _ _ _
                  case k3 => unfold maxLen; omega
                  case k4 => omega
                  case k5 => rw [World.size_alloc]; omega
                  intro v' w9 hown' hgrow _
                  have hb9 : Below w.heap.size w w9 := (HB6.out.alloc HB6.out.size _).grown hgrow (by rw [World.size_alloc]; omega) (fun k hk => (HO6.out.lt k hk).1)
                  have H9 : Hid (w9.ownsRow w.heap.size 43 3 v' (L ++ [PcI.mk (f : Int) (l : Int) ⟨#[]⟩]).length (pcC (L ++ [PcI.mk (f : Int) (l : Int) ⟨#[]⟩])) ∧ Below w.heap.size w w9) := ⟨by have h := hown'; rw [HSN.out] at h; rw [List.length_append, bl]; exact h, hb9⟩
                  clear hown' hgrow hb9 HSN HO6 HB6 HSZ
                  go_wp2_with fail
                  go_roundw
                  case rel => exact ⟨i + 1, _, _, by omega, by go_num, rfl, HST, H9.out.1, H9.out.2⟩
                  case measure => simp [intN]; omega
            · have he := d_ne hde
              have c0 : (w2.alloc (.cells #[.int .i64 0, .int .i64 0, .string d] 43)).cell? ⟨w2.heap.size, 0, none⟩ = some (.int .i64 0) := cell_of_row _ _ _ _ _ _ HR3.out
              have c1 : (w2.alloc (.cells #[.int .i64 0, .int .i64 0, .string d] 43)).cell? ⟨w2.heap.size, 1, none⟩ = some (.int .i64 0) := cell_of_row _ _ _ _ _ _ HR3.out
              have c2 : (w2.alloc (.cells #[.int .i64 0, .int .i64 0, .string d] 43)).cell? ⟨w2.heap.size, 2, none⟩ = some (.string d) := cell_of_row _ _ _ _ _ _ HR3.out
              have HSZ : Hid ((w2.alloc (.cells #[.int .i64 0, .int .i64 0, .string d] 43)).heap.size = w2.heap.size + 1) := by show _ = _; simp
              have hBsz := HB3.out.size
              have HST : Hid (piesI r0 (i + 1) = some (L ++ [PcI.mk 0 0 d], a)) := piesI_go HPI.out (pieI_dat HDD.out hde)
              have HSN : Hid (pcC L ++ [.int .i64 0, .int .i64 0, .string d] = pcC (L ++ [PcI.mk 0 0 d])) := pcC_snoc L ⟨0, 0, d⟩
              clear HPI
              clear hde HNB
              go_wp2_with (at_builtin; (refine wpList_append_own _ rfl _ _ 24 rfl w.heap.size 43 i0 _ 3 32 Try.underlying24 hi hz0 hz1 hz2 rfl (by decide) _ _ _ rfl (HO3.out.alloc _) ⟨w2.heap.size + 1, 0, none⟩ 1 1 [_, _, _] rfl rfl (cell_three_at HSZ.out) ?k2 ?k3 ?k4 ?k5 ?_))
              case k2 => exact three_one _ _ _
              case k3 => unfold maxLen; omega
              case k4 => omega
              case k5 => rw [World.size_alloc]; omega
              intro v' w9 hown' hgrow _
              have hb9 : Below w.heap.size w w9 := (HB3.out.alloc HB3.out.size _).grown hgrow (by rw [World.size_alloc]; omega) (fun k hk => (HO3.out.lt k hk).1)
              have H9 : Hid (w9.ownsRow w.heap.size 43 3 v' (L ++ [PcI.mk 0 0 d]).length (pcC (L ++ [PcI.mk 0 0 d])) ∧ Below w.heap.size w w9) := ⟨by have h := hown'; rw [HSN.out] at h; rw [List.length_append, bl]; exact h, hb9⟩
              clear hown' hgrow hb9 HSN HO3 HB3 HSZ
              go_wp2_with fail
              go_roundw
              case rel => exact ⟨i + 1, _, _, by omega, by go_num, rfl, HST, H9.out.1, H9.out.2⟩
              case measure => simp [intN]; omega
        · obtain rfl : i = n := by omega
          obtain ⟨va, vc, rfl⟩ := own3_slice HO.out.1
          have HPK : Hid (Calls Try.prog 26 #[.int .i64 4000, .slice va L.length vc] wr fun e w' => e = .returned (.bool (pcB (pcF L) L.length 4000)) ∧ Below wr.heap.size wr w') := spcs_any _ L.length (pcF L) 4000 wr ⟨by omega, fun j hj => by
            have h1 := bd (pcF L j) (by unfold pcF; rw [List.getD_eq_getElem?_getD, List.getElem?_eq_getElem hj]; exact List.getElem_mem hj)
            omega⟩ (own3_arg HO.out.1)
          by_cases hre : r = ⟨#[]⟩
          · subst hre
            by_cases hpc : pcR (pcF L) L.length 4000
            · have HR : Hid (rdD s = some L) := rdD_yes HNS.out.1 HNS.out.2 HPI.out (by rw [bl] at hpc; exact hpc)
              rw [pcB_yes hpc] at HPK
              clear hpc HPI bl br bd HNS
              go_wp2_with fail
              refine HPK.out.mono ?_
              rintro e w3 ⟨rfl, hb3⟩
              have H3 : Hid (w3.ownsRow w.heap.size 43 3 (.slice va L.length vc) L.length (pcC L) ∧ Below w.heap.size w w3) := ⟨own3_call HO.out.1 hb3, bl3 HO.out.2 hb3 HO.out.2.size⟩
              clear hb3 HO HPK
              go_wp2_with fail
              go_ret2
              exact RdPost.yes HR.out H3.out.1 H3.out.2
            · have HR : Hid (rdD s = none) := rdD_no4 HNS.out.1 HPI.out (fun c => hpc (by rw [bl]; exact c.2))
              rw [pcB_no hpc] at HPK
              clear hpc HPI bl br bd HNS
              go_wp2_with fail
              refine HPK.out.mono ?_
              rintro e w3 ⟨rfl, hb3⟩
              have H3 : Hid (Below w.heap.size w w3) := bl3 HO.out.2 hb3 HO.out.2.size
              clear hb3 HO HPK
              go_wp2_with fail
              go_ret2
              exact RdPost.no HR.out H3.out
          · have HR : Hid (rdD s = none) := rdD_no4 HNS.out.1 HPI.out (fun c => hre c.1)
            have he := d_ne hre
            clear hre HPI bl br bd HNS HPK
            go_wp2_with fail
            go_ret2
            exact RdPost.no HR.out HO.out.2
    · have hnI : (500 : Int) < (n : Int) := by omega
      have HR : Hid (rdD s = none) := rdD_no2 hn hn5
      clear hn hn5
      go_enter Try.func17, Try.ntmps17
      go_wp2_with fail
      refine (HN0.out _).mono ?_
      rintro e w1 ⟨rfl, hb1⟩
      go_wp2_with fail
      go_ret2
      exact RdPost.no HR.out hb1
end Go.Proofs.Ytadimakdjndcdae
