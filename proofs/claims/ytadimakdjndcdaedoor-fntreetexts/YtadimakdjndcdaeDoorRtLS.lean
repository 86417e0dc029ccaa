/-
  ReadTree: the specification's.
-/
import Derived.Test.YtadimakdjndcdaeDoorRtLC
namespace Go.Proofs.YtadimakdjndcdaeDoor
open Go.RowKit
set_option linter.unusedVariables false
set_option linter.unusedSimpArgs false
theorem datI_empty : datI ⟨#[]⟩ = none := rfl
theorem numI_emptyR : numI ⟨#[]⟩ = none := rfl
set_option maxRecDepth 100000 in
set_option maxHeartbeats 4000000 in
theorem srtd_any (s : ByteArray) (w : World) (hs : s.size ≤ 1048576) :
    Calls Tryd.prog 22 #[.string s] w fun e w' => RtPost w (rtD s) e w' := by
  have HN : Hid (∀ w, Calls Tryd.prog 53 #[.string s] w fun e w' => e = .returned (numIV (numI s)) ∧ Below w.heap.size w w') := fun w => snumI_any s w hs
  have HNR : Hid (∀ (r : ByteArray) w, r.size ≤ 1048576 → Calls Tryd.prog 53 #[.string r] w fun e w' => e = .returned (numIV (numI r)) ∧ Below w.heap.size w w') := fun r w h => snumI_any r w h
  have HT : Hid (∀ (r : ByteArray) w, r.size ≤ 1048576 → Calls Tryd.prog 54 #[.string r] w fun e w' => e = .returned (datIV (datI r)) ∧ Below w.heap.size w w') := fun r w h => stext_datI r w h
  obtain ⟨i0, hi, hz0, hz1, hz2⟩ := info_parts Tryd.infNd
  cases hn : numI s with
  | none =>
    have HR : Hid (rtD s = none) := rtD_no1 hn
    rw [hn] at HN
    unfold numIV at HN
    clear hn
    go_enter Tryd.func22, Tryd.ntmps22
    go_wp2_with fail
    refine (HN.out _).mono ?_
    rintro e w1 ⟨rfl, hb1⟩
    go_wp2_with fail
    go_ret2
    exact RtPost.no HR.out hb1
  | some p =>
    obtain ⟨n, r0⟩ := p
    obtain ⟨hnb, hr0⟩ := numI_bd hn
    rw [hn] at HN
    unfold numIV at HN
    by_cases hn5 : n ≤ 40
    · have hnI : ¬ (40 : Int) < (n : Int) := by omega
      have HNS : Hid (numI s = some (n, r0) ∧ n ≤ 40) := ⟨hn, hn5⟩
      clear hn
      go_enter Tryd.func22, Tryd.ntmps22
      go_wp2_with fail
      refine (HN.out _).mono ?_
      rintro e w1 ⟨rfl, hb1⟩
      have HB1 : Hid (Below w.heap.size w (w1.alloc (.cells #[] 38)) ∧ (w1.alloc (.cells #[] 38)).ownsRow w.heap.size 38 4 (.slice (some ⟨w1.heap.size, 0, none⟩) 0 0) 0 []) := ⟨hb1.alloc hb1.size _, rfl, Or.inr ⟨w1.heap.size, 0, #[], rfl, hb1.size, heap_alloc_new _ _, Nat.le_refl _, Nat.zero_le _, rfl, rfl⟩⟩
      clear hb1 HN
      go_wp2_with fail
      go_loopw [5, 7, 8] (fun x v t wr => ∃ (i : Nat) (L : List NdI) (r : ByteArray), i ≤ n ∧ t = .int .i64 (i : Int) ∧ x = .string r ∧ Hid (nodsI r0 i = some (L, r)) ∧ Hid (wr.ownsRow w.heap.size 38 4 v L.length (ndC L) ∧ Below w.heap.size w wr)) (fun _ _ t _ => n - (intNd t).toNat)
      case atStart => exact ⟨0, [], r0, by omega, rfl, rfl, rfl, HB1.out.2, HB1.out.1⟩
      case round =>
        clear HB1
        obtain ⟨i, L, r, hi2, rfl, rfl, HPI, HO⟩ := hrel
        obtain ⟨bl, br⟩ := nodsI_bd HPI.out
        by_cases hlt : i < n
        · have hltI : (i : Int) < (n : Int) := by omega
          have hrs : r.size ≤ 1048576 := by omega
          have hLl : L.length ≤ 40 := by omega
          have HSTOP : Hid (nodI r = none → rtD s = none) := fun hp => rtD_no3 HNS.out.1 (by
            have h := nodsI_none (nodsI_stop HPI.out hp) (n - (i + 1))
            rwa [show i + 1 + (n - (i + 1)) = n by omega] at h)
          clear br
          go_wp2_with fail
          refine (HT.out r _ hrs).mono ?_
          rintro e w2 ⟨rfl, hb2⟩
          have HB2 := hid (blNd HO.out.2 hb2 HO.out.2.size)
          have HO2 := hid (own4_call HO.out.1 hb2)
          clear hb2 HO
          cases hd : datI r with
          | none =>
            have HR : Hid (rtD s = none) := HSTOP.out (nodI_no1 hd)
            unfold datIV
            clear hd HPI
            go_wp2_with fail
            refine (HNR.out ⟨#[]⟩ _ (Nat.zero_le _)).mono ?_
            rintro e w3 ⟨rfl, hb3⟩
            have HB3 := hid (blNd HB2.out hb3 HB2.out.size)
            rw [numI_emptyR]
            unfold numIV
            clear hb3 HB2 HO2
            go_wp2_with fail
            go_ret2
            exact RtPost.no HR.out HB3.out
          | some q =>
            obtain ⟨a, ra⟩ := q
            have has := datI_sum hd
            have HDD := hid hd
            unfold datIV
            clear hd
            go_wp2_with fail
            refine (HNR.out ra _ (by omega)).mono ?_
            rintro e w3 ⟨rfl, hb3⟩
            have HB3 := hid (blNd HB2.out hb3 HB2.out.size)
            have HO3 := hid (own4_call HO2.out hb3)
            clear hb3 HB2 HO2
            cases hn1 : numI ra with
            | none =>
              have HR : Hid (rtD s = none) := HSTOP.out (nodI_no2 HDD.out hn1)
              unfold numIV
              clear hn1 HPI HO3
              go_wp2_with fail
              go_ret2
              exact RtPost.no HR.out HB3.out
            | some q1 =>
              obtain ⟨k, rb⟩ := q1
              have hrb := numI_lt hn1
              have hk12 := (numI_bd hn1).1
              have HNN := hid hn1
              have hm0 : (0 : Int) ≤ ((k / 2 : Nat) : Int) := by omega
              have hkq : Int.tdiv (k : Int) 2 = ((k / 2 : Nat) : Int) := by rw [Int.tdiv_eq_ediv_of_nonneg (by omega)]; omega
              have hkw : IntKind.i64.wrap ((k / 2 : Nat) : Int) = ((k / 2 : Nat) : Int) := by rw [IntKind.wrap_i64]; omega
              have h3s := HB3.out.size
              obtain ⟨m, hm⟩ : ∃ m, m = k / 2 := ⟨_, rfl⟩
              unfold numIV
              by_cases hk : k % 2 = 1
              · have hkr : Int.tmod (k : Int) 2 = 1 := by rw [Int.tmod_eq_emod_of_nonneg (by omega)]; omega
                have HND : Hid (nodI r = some (⟨a, true, (m : Int), ⟨#[]⟩⟩, rb)) := by rw [hm]; exact nodI_dir HDD.out HNN.out hk
                rw [← hm] at hkq hkw hm0
                clear hn1 hm hk
                have hx3 := heap_alloc_new w3 (.cells #[.string a, .bool true, .int .i64 (m : Int), .string ⟨#[]⟩] 38)
                have HO6 := hid (World.ownsRow.alloc HO3.out (.cells #[.string a, .bool true, .int .i64 (m : Int), .string ⟨#[]⟩] 38))
                have HB6 := hid (HB3.out.alloc HB3.out.size (.cells #[.string a, .bool true, .int .i64 (m : Int), .string ⟨#[]⟩] 38))
                have HSZ : Hid ((w3.alloc (.cells #[.string a, .bool true, .int .i64 (m : Int), .string ⟨#[]⟩] 38)).heap.size = w3.heap.size + 1) := by show _ = _; simp
                have c0 := cell_of_row _ _ 0 _ _ _ hx3
                have c1 := cell_of_row _ _ 1 _ _ _ hx3
                have c2 := cell_of_row _ _ 2 _ _ _ hx3
                have c3 := cell_of_row _ _ 3 _ _ _ hx3
                simp only [List.getElem?_toArray, List.getElem?_cons_zero, List.getElem?_cons_succ] at c0 c1 c2 c3
                clear hx3 HO3 HB3
                have HST : Hid (nodsI r0 (i + 1) = some (L ++ [NdI.mk a true (m : Int) ⟨#[]⟩], rb)) := nodsI_go HPI.out HND.out
                have HSN : Hid (ndC L ++ [.string a, .bool true, .int .i64 (m : Int), .string ⟨#[]⟩] = ndC (L ++ [NdI.mk a true (m : Int) ⟨#[]⟩])) := ndC_snoc L ⟨a, true, (m : Int), ⟨#[]⟩⟩
                have hBsz := HB6.out.size
                clear HPI
                go_wp2_with (at_builtin; (refine wpList_append_own _ rfl _ _ 27 rfl w.heap.size 38 i0 _ 4 48 Tryd.underlying27 hi hz0 hz1 hz2 rfl (by decide) _ _ _ rfl (HO6.out.alloc _) ⟨w3.heap.size + 1, 0, none⟩ 1 1 [_, _, _, _] rfl rfl (cell_four_at HSZ.out) ?k2 ?k3 ?k4 ?k5 ?_))
                case k2 => exact four_one _ _ _ _
                case k3 => unfold maxLen; omega
                case k4 => omega
                case k5 => rw [World.size_alloc]; omega
                intro v' w9 hown' hgrow _
                have hb9 : Below w.heap.size w w9 := (HB6.out.alloc HB6.out.size _).grown hgrow (by rw [World.size_alloc]; omega) (fun k hk => (HO6.out.lt k hk).1)
                have H9 : Hid (w9.ownsRow w.heap.size 38 4 v' (L ++ [NdI.mk a true (m : Int) ⟨#[]⟩]).length (ndC (L ++ [NdI.mk a true (m : Int) ⟨#[]⟩])) ∧ Below w.heap.size w w9) := ⟨by have h := hown'; rw [HSN.out] at h; rw [List.length_append, bl]; exact h, hb9⟩
                clear hown' hgrow hb9 HSN HO6 HB6 HSZ
                go_wp2_with fail
                go_roundw
                case rel => exact ⟨i + 1, _, _, by omega, by go_num, rfl, HST, H9.out.1, H9.out.2⟩
                case measure => simp [intNd]; omega
              · have hkr : Int.tmod (k : Int) 2 = 0 := by rw [Int.tmod_eq_emod_of_nonneg (by omega)]; omega
                have HK := hid hk
                have HM := hid hm
                rw [← hm] at hkq hkw hm0
                clear hn1 hm hk
                have hx3 := heap_alloc_new w3 (.cells #[.string a, .bool false, .int .i64 (m : Int), .string ⟨#[]⟩] 38)
                have HX3 := hid hx3
                have HO4 := hid (World.ownsRow.alloc HO3.out (.cells #[.string a, .bool false, .int .i64 (m : Int), .string ⟨#[]⟩] 38))
                have HB4 := hid (HB3.out.alloc HB3.out.size (.cells #[.string a, .bool false, .int .i64 (m : Int), .string ⟨#[]⟩] 38))
                have HNB := hid (own4_ne HO3.out (Nat.le_refl _))
                have c1 := cell_of_row _ _ 1 _ _ _ hx3
                simp only [List.getElem?_toArray, List.getElem?_cons_zero, List.getElem?_cons_succ] at c1
                clear hx3 HO3 HB3
                go_wp2_with fail
                refine (HT.out rb _ (by omega)).mono ?_
                rintro e w5 ⟨rfl, hb5⟩
                have HB5 := hid (blNd HB4.out hb5 HB4.out.size)
                have HO5 := hid (own4_call HO4.out hb5)
                have hx5 := (hb5.block _ (row_ltR HX3.out)).trans HX3.out
                have h5s := hb5.size
                rw [World.size_alloc] at h5s
                clear hb5 HB4 HO4 HX3 c1
                cases h2 : datI rb with
                | none =>
                  have HR : Hid (rtD s = none) := HSTOP.out (nodI_no3 HDD.out HNN.out HK.out h2)
                  unfold datIV
                  clear h2 HPI HO5 hx5
                  go_wp2_with fail
                  go_ret2
                  exact RtPost.no HR.out HB5.out
                | some q2 =>
                  obtain ⟨d, rc⟩ := q2
                  have HND : Hid (nodI r = some (⟨a, false, (m : Int), d⟩, rc)) := by rw [HM.out]; exact nodI_file HDD.out HNN.out HK.out h2
                  unfold datIV
                  clear h2
                  have y3 := cell_of_row _ _ 3 _ _ _ hx5
                  have u3 := frozen_of_row w5 w3.heap.size 3 _ _ hx5
                  simp only [List.getElem?_toArray, List.getElem?_cons_zero, List.getElem?_cons_succ] at y3
                  have hx6 := heap_setCell_same w5 w3.heap.size 3 _ 38 (.string d) hx5
                  have HO6 := hid (own4_set HO5.out HNB.out 3 (.string d))
                  have HB6 := hid (HB5.out.setCell (p := ⟨w3.heap.size, 3, none⟩) h3s (.string d))
                  have HSZ : Hid ((w5.setCell ⟨w3.heap.size, 3, none⟩ (.string d)).heap.size = w5.heap.size) := by show _ = _; simp
                  have c0 := cell_of_row _ _ 0 _ _ _ hx6
                  have c1 := cell_of_row _ _ 1 _ _ _ hx6
                  have c2 := cell_of_row _ _ 2 _ _ _ hx6
                  have c3 := cell_of_row _ _ 3 _ _ _ hx6
                  simp only [List.setIfInBounds_toArray, List.set_cons_zero, List.set_cons_succ, List.getElem?_toArray, List.getElem?_cons_zero, List.getElem?_cons_succ] at c0 c1 c2 c3
                  clear hx5 hx6 HO5 HB5 HNB
                  have HST : Hid (nodsI r0 (i + 1) = some (L ++ [NdI.mk a false (m : Int) d], rc)) := nodsI_go HPI.out HND.out
                  have HSN : Hid (ndC L ++ [.string a, .bool false, .int .i64 (m : Int), .string d] = ndC (L ++ [NdI.mk a false (m : Int) d])) := ndC_snoc L ⟨a, false, (m : Int), d⟩
                  have hBsz := HB6.out.size
                  clear HPI
                  go_wp2_with (at_builtin; (refine wpList_append_own _ rfl _ _ 27 rfl w.heap.size 38 i0 _ 4 48 Tryd.underlying27 hi hz0 hz1 hz2 rfl (by decide) _ _ _ rfl (HO6.out.alloc _) ⟨w5.heap.size, 0, none⟩ 1 1 [_, _, _, _] rfl rfl (cell_four_at HSZ.out) ?k2 ?k3 ?k4 ?k5 ?_))
                  case k2 => exact four_one _ _ _ _
                  case k3 => unfold maxLen; omega
                  case k4 => omega
                  case k5 => rw [World.size_alloc]; omega
                  intro v' w9 hown' hgrow _
                  have hb9 : Below w.heap.size w w9 := (HB6.out.alloc HB6.out.size _).grown hgrow (by rw [World.size_alloc]; omega) (fun k hk => (HO6.out.lt k hk).1)
                  have H9 : Hid (w9.ownsRow w.heap.size 38 4 v' (L ++ [NdI.mk a false (m : Int) d]).length (ndC (L ++ [NdI.mk a false (m : Int) d])) ∧ Below w.heap.size w w9) := ⟨by have h := hown'; rw [HSN.out] at h; rw [List.length_append, bl]; exact h, hb9⟩
                  clear hown' hgrow hb9 HSN HO6 HB6 HSZ
                  go_wp2_with fail
                  go_roundw
                  case rel => exact ⟨i + 1, _, _, by omega, by go_num, rfl, HST, H9.out.1, H9.out.2⟩
                  case measure => simp [intNd]; omega
        · obtain rfl : i = n := by omega
          have HK : Hid (∀ w', Below wr.heap.size wr w' → True) := fun _ _ => trivial
          obtain ⟨va, vc, rfl⟩ := own4_slice HO.out.1
          have HPK : Hid (Calls Tryd.prog 31 #[.slice va L.length vc] wr fun e w' => e = .returned (.bool (ndB (ndF L) L.length)) ∧ Below wr.heap.size wr w') := streeOk_any _ L.length (ndF L) wr (nodsI_le (by omega) HPI.out) (own4_arg HO.out.1)
          by_cases hre : r = ⟨#[]⟩
          · subst hre
            by_cases hpc : ndR (ndF L) L.length
            · have HR : Hid (rtD s = some L) := rtD_yes HNS.out.1 HNS.out.2 HPI.out (by rw [bl] at hpc; exact hpc)
              rw [ndB_yes hpc] at HPK
              clear hpc HPI bl br HNS
              go_wp2_with fail
              refine HPK.out.mono ?_
              rintro e w3 ⟨rfl, hb3⟩
              have H3 : Hid (w3.ownsRow w.heap.size 38 4 (.slice va L.length vc) L.length (ndC L) ∧ Below w.heap.size w w3) := ⟨own4_call HO.out.1 hb3, blNd HO.out.2 hb3 HO.out.2.size⟩
              clear hb3 HO HPK
              go_wp2_with fail
              go_ret2
              exact RtPost.yes HR.out H3.out.1 H3.out.2
            · have HR : Hid (rtD s = none) := rtD_no4 HNS.out.1 HPI.out (fun c => hpc (by rw [bl]; exact c.2))
              rw [ndB_no hpc] at HPK
              clear hpc HPI bl br HNS
              go_wp2_with fail
              refine HPK.out.mono ?_
              rintro e w3 ⟨rfl, hb3⟩
              have H3 : Hid (Below w.heap.size w w3) := blNd HO.out.2 hb3 HO.out.2.size
              clear hb3 HO HPK
              go_wp2_with fail
              go_ret2
              exact RtPost.no HR.out H3.out
          · have HR : Hid (rtD s = none) := rtD_no4 HNS.out.1 HPI.out (fun c => hre c.1)
            have he := d_neR hre
            clear hre HPI bl br HNS HPK
            go_wp2_with fail
            go_ret2
            exact RtPost.no HR.out HO.out.2
    · have hnI : (40 : Int) < (n : Int) := by omega
      have HR : Hid (rtD s = none) := rtD_no2 hn hn5
      clear hn hn5
      go_enter Tryd.func22, Tryd.ntmps22
      go_wp2_with fail
      refine (HN.out _).mono ?_
      rintro e w1 ⟨rfl, hb1⟩
      go_wp2_with fail
      go_ret2
      exact RtPost.no HR.out hb1
end Go.Proofs.YtadimakdjndcdaeDoor
