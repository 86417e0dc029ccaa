/-
  The text of a tree: the specification's.
-/
import Derived.Test.YtadimakdjndcdaeDoorTxM
import Derived.Test.YtadimakdjndcdaeDoorHeld
namespace Go.Proofs.YtadimakdjndcdaeDoor
open Go.RowKit
set_option linter.unusedVariables false
set_option linter.unusedSimpArgs false
set_option maxRecDepth 100000 in
set_option maxHeartbeats 4000000 in
theorem stx_yes (a : Option Addr) (c n : Nat) (F : Nat → NdI) (w : World) (hF : NdLe F n) (hok : ndR F n) (hr : 0 < n → ∃ g, a = some ⟨g, 0, none⟩ ∧ NdRow w g n F) :
    Calls Tryd.prog 18 #[.slice a n c] w fun e w' => e = .returned (.string (txB F n n)) ∧ Below w.heap.size w w' := by
  have hnI : (n : Int) ≤ 40 := by have := hok.1; omega
  have HK : Hid (Calls Tryd.prog 31 #[.slice a n c] w fun e w' => e = .returned (.bool true) ∧ Below w.heap.size w w') := by
    have h2 := streeOk_any (.slice a n c) n F w hF ⟨a, c, rfl, hr⟩
    rw [ndB_yes hok] at h2
    exact h2
  have HP : Hid (∀ (m : Nat) w, m < 9223372036854775808 → Calls Tryd.prog 49 #[.int .i64 (m : Int)] w fun e w' => e = .returned (.string (pnB m)) ∧ Below w.heap.size w w') := fun m w h => sxPut_any m w h
  have HPT : Hid (∀ (s : ByteArray) w, s.size ≤ 1048576 → Calls Tryd.prog 50 #[.string s] w fun e w' => e = .returned (.string (putTextOut s)) ∧ Below w.heap.size w w') := fun s w h => sputText_any s w (by omega)
  have HR : Hid (∀ w', Below w.heap.size w w' → 0 < n → ∃ g, a = some ⟨g, 0, none⟩ ∧ NdRow w' g n F) := fun w' hb h0 => by
    obtain ⟨g, h1, h2⟩ := hr h0
    exact ⟨g, h1, h2.below hb h2.lt⟩
  have HO : Hid (ndR F n ∧ ∀ i, i < n → (F i).p.size ≤ 1048576 ∧ (F i).d.size ≤ 1048576) := ⟨hok, fun i hi => hF.s hi⟩
  clear hr hok hF
  go_enter Tryd.func18, Tryd.ntmps18
  go_wp2_with fail
  refine HK.out.mono ?_
  rintro e w1 ⟨rfl, hb1⟩
  have HB1 : Hid (Below w.heap.size w w1) := hb1
  clear hb1 HK
  go_wp2_with fail
  refine (HP.out n _ (by omega)).mono ?_
  rintro e w2 ⟨rfl, hb2⟩
  have HB3 : Hid (Below w.heap.size w w2) := blNd HB1.out hb2 HB1.out.size
  clear hb2 HB1
  go_wp2_with fail
  go_loopw [3, 4] (fun u v wr => ∃ (i : Nat), i ≤ n ∧ v = .int .i64 (i : Int) ∧ u = .string (txB F n i) ∧ Hid (Below w.heap.size w wr)) (fun _ v _ => n - (trI v).toNat)
  case atStart => exact ⟨0, by omega, rfl, rfl, HB3⟩
  case round =>
    clear HB3
    obtain ⟨i, hi, rfl, rfl, HB⟩ := hrel
    by_cases hlt : i < n
    · have hltI : (i : Int) < (n : Int) := by omega
      obtain ⟨g, rfl, hrow⟩ := HR.out _ HB.out (by omega)
      obtain ⟨q, hq⟩ : ∃ q, q = 4 * i := ⟨_, rfl⟩
      have x0 := hrow.c0 i hlt
      have x1 := hrow.c1 i hlt
      have x2 := hrow.c2 i hlt
      have x3 := hrow.c3 i hlt
      rw [← hq] at x0 x1 x2 x3
      have hiq : i * 4 = q := by omega
      have hsz := HO.out.2 i hlt
      have hmm := (HO.out.1.2 i hlt).1.2.1
      have hle := txB_size (F := F) (n := n) (i := i) HO.out.1.1 (by omega) HO.out.2 (fun j hj => (HO.out.1.2 j hj).1.2.1)
      have hi40 := HO.out.1.1
      have hle2 : (txB F n i).size ≤ 1000000000 := by omega
      have HY : Hid ((F i).r = true → txB F n (i + 1) = (txB F n i ++ putTextOut (F i).p) ++ pnB (2 * (F i).m.toNat + 1)) := fun h => txB_dir h
      have HN : Hid ((F i).r = false → txB F n (i + 1) = ((txB F n i ++ putTextOut (F i).p) ++ pnB (2 * (F i).m.toNat)) ++ putTextOut (F i).d) := fun h => txB_file h
      clear hrow hq hle hi40
      generalize F i = p at x0 x1 x2 x3 hsz hmm HY HN
      generalize txB F n i = acc at hle2 HY HN ⊢
      obtain ⟨pp, pr, pm, pd⟩ := p
      simp only at x0 x1 x2 x3 hsz hmm HY HN
      obtain ⟨m2, rfl⟩ : ∃ m2 : Nat, pm = (m2 : Int) := ⟨pm.toNat, by omega⟩
      simp only [Int.toNat_natCast] at HY HN
      obtain ⟨k2, hk2⟩ : ∃ k2, k2 = 2 * m2 := ⟨_, rfl⟩
      rw [← hk2] at HY HN
      have hw2 : IntKind.i64.wrap (2 * (m2 : Int)) = (k2 : Int) := by rw [IntKind.wrap_i64]; omega
      have hk2e : 2 * (m2 : Int) = (k2 : Int) := by omega
      have hk2b : k2 ≤ 1022 := by omega
      have hpx := pxT_size hsz.1
      have hpd := pxT_size hsz.2
      have HBX : Hid ((wr.alloc (.cells #[.string pp, .bool pr, .int .i64 (m2 : Int), .string pd] 38)).heap[wr.heap.size]? = some (.cells #[.string pp, .bool pr, .int .i64 (m2 : Int), .string pd] 38 (0, 0))) := heap_alloc_new wr _
      have HBA : Hid (Below w.heap.size w (wr.alloc (.cells #[.string pp, .bool pr, .int .i64 (m2 : Int), .string pd] 38))) := HB.out.alloc HB.out.size _
      have HA1 : Hid ((acc ++ putTextOut pp).size = acc.size + (putTextOut pp).size) := ByteArray.size_append
      clear HB hk2
      generalize hX : putTextOut pp = X at *
      have HXE := hidT hX
      clear hX
      cases pr with
      | true =>
        have HPX : Hid (∀ w, Calls Tryd.prog 50 #[.string pp] w fun e w' => e = .returned (.string X) ∧ Below w.heap.size w w') := fun w => by have h := HPT.out pp w hsz.1; rw [HXE.out] at h; exact h
        obtain ⟨k3, hk3⟩ : ∃ k3, k3 = k2 + 1 := ⟨_, rfl⟩
        have hN := HY.out rfl
        rw [← hk3] at hN
        have HNN := hidT hN
        have hw3 : IntKind.i64.wrap ((k2 : Int) + 1) = (k3 : Int) := by rw [IntKind.wrap_i64]; omega
        have hk3e : (k2 : Int) + 1 = (k3 : Int) := by omega
        have hpk := pnB_size (n := k3) (by omega)
        have hk3b : k3 ≤ 1023 := by omega
        clear hN HY HN hk3
        go_wp2_with fail
        generalize wr.alloc (.cells #[.string pp, .bool true, .int .i64 (m2 : Int), .string pd] 38) = wA at HBX HBA ⊢
        generalize wr.heap.size = NB at HBX ⊢
        obtain ⟨S, hSS⟩ : ∃ S : World → Prop, S = fun w' => Below w.heap.size w w' ∧ w'.heap[NB]? = some (.cells #[.string pp, .bool true, .int .i64 (m2 : Int), .string pd] 38 (0, 0)) := ⟨_, rfl⟩
        have HSS := hidT hSS
        have hSd : S wA.drew := by rw [hSS]; exact ⟨HBA.out.drew, HBX.out⟩
        have HSK : Hid (∀ w1 w2 : World, S w1 → Below w1.heap.size w1 w2 → S w2) := fun w1 w2 h hb => by
          rw [HSS.out] at h ⊢
          exact ⟨blNd h.1 hb h.1.size, (hb.block _ (Array.getElem?_eq_some_iff.1 h.2).1).trans h.2⟩
        have HX0 : Hid (∀ w', S w' → w'.cell? ⟨NB, 0, none⟩ = some (.string pp)) := fun w' h => by rw [HSS.out] at h; exact cell_of_row _ _ 0 _ _ _ h.2
        have HX2 : Hid (∀ w', S w' → w'.cell? ⟨NB, 2, none⟩ = some (.int .i64 (m2 : Int))) := fun w' h => by rw [HSS.out] at h; exact cell_of_row _ _ 2 _ _ _ h.2
        have HX3 : Hid (∀ w', S w' → w'.cell? ⟨NB, 3, none⟩ = some (.string pd)) := fun w' h => by rw [HSS.out] at h; exact cell_of_row _ _ 3 _ _ _ h.2
        clear hSS
        refine wp_region_held (S := S) (by kernel_rfl) ?_
        change wpAnyH _ _ _ _ _ _ _ _ (World.drew _)
        refine wpAnyH_take (i := 0) (v := .string acc) rfl (by kernel_rfl) (by kernel_rfl) (by kernel_rfl) (fun _ _ _ h => h) (Or.inl ⟨by rfl, by intro w' hS'; go_simp <;> (first | omega | (rw [IntKind.wrap_i64]; omega) | (rw [IntKind.wrap_u64]; omega) | (rw [IntKind.wrap_u32]; omega) | (rw [Int.tmod_eq_emod_of_nonneg (by omega)]) | rfl)⟩) hSd ?_
        (try simp only [List.getElem_toArray, List.getElem_cons_succ, List.getElem_cons_zero, Act.put, List.setIfInBounds_toArray, List.set_cons_zero, List.set_cons_succ])
        refine wpAnyH_take (i := 1) (v := .pointer (some ⟨NB, 0, none⟩)) rfl (by kernel_rfl) (by kernel_rfl) (by kernel_rfl) (fun _ _ _ h => h) (Or.inl ⟨by rfl, by intro w' hS'; go_simp <;> (first | omega | (rw [IntKind.wrap_i64]; omega) | (rw [IntKind.wrap_u64]; omega) | (rw [IntKind.wrap_u32]; omega) | (rw [Int.tmod_eq_emod_of_nonneg (by omega)]) | rfl)⟩) hSd ?_
        (try simp only [List.getElem_toArray, List.getElem_cons_succ, List.getElem_cons_zero, Act.put, List.setIfInBounds_toArray, List.set_cons_zero, List.set_cons_succ])
        refine wpAnyH_take (i := 2) (v := .string pp) rfl (by kernel_rfl) (by kernel_rfl) (by kernel_rfl) (fun _ _ _ h => h) (Or.inl ⟨by rfl, by intro w' hS'; have hxx := HX0.out w' hS'; go_simp <;> (first | omega | (rw [IntKind.wrap_i64]; omega) | (rw [IntKind.wrap_u64]; omega) | (rw [IntKind.wrap_u32]; omega) | (rw [Int.tmod_eq_emod_of_nonneg (by omega)]) | rfl)⟩) hSd ?_
        (try simp only [List.getElem_toArray, List.getElem_cons_succ, List.getElem_cons_zero, Act.put, List.setIfInBounds_toArray, List.set_cons_zero, List.set_cons_succ])
        refine wpAnyH_take (i := 5) (v := .pointer (some ⟨NB, 2, none⟩)) rfl (by kernel_rfl) (by kernel_rfl) (by kernel_rfl) (fun _ _ _ h => h) (Or.inl ⟨by rfl, by intro w' hS'; go_simp <;> (first | omega | (rw [IntKind.wrap_i64]; omega) | (rw [IntKind.wrap_u64]; omega) | (rw [IntKind.wrap_u32]; omega) | (rw [Int.tmod_eq_emod_of_nonneg (by omega)]) | rfl)⟩) hSd ?_
        (try simp only [List.getElem_toArray, List.getElem_cons_succ, List.getElem_cons_zero, Act.put, List.setIfInBounds_toArray, List.set_cons_zero, List.set_cons_succ])
        refine wpAnyH_take (i := 6) (v := .int .i64 (m2 : Int)) rfl (by kernel_rfl) (by kernel_rfl) (by kernel_rfl) (fun _ _ _ h => h) (Or.inl ⟨by rfl, by intro w' hS'; have hxx := HX2.out w' hS'; go_simp <;> (first | omega | (rw [IntKind.wrap_i64]; omega) | (rw [IntKind.wrap_u64]; omega) | (rw [IntKind.wrap_u32]; omega) | (rw [Int.tmod_eq_emod_of_nonneg (by omega)]) | rfl)⟩) hSd ?_
        (try simp only [List.getElem_toArray, List.getElem_cons_succ, List.getElem_cons_zero, Act.put, List.setIfInBounds_toArray, List.set_cons_zero, List.set_cons_succ])
        refine wpAnyH_take (i := 7) (v := .int .i64 (k2 : Int)) rfl (by kernel_rfl) (by kernel_rfl) (by kernel_rfl) (fun _ _ _ h => h) (Or.inl ⟨by rfl, by intro w' hS'; go_simp <;> (first | omega | (rw [IntKind.wrap_i64]; omega) | (rw [IntKind.wrap_u64]; omega) | (rw [IntKind.wrap_u32]; omega) | (rw [Int.tmod_eq_emod_of_nonneg (by omega)]) | rfl)⟩) hSd ?_
        (try simp only [List.getElem_toArray, List.getElem_cons_succ, List.getElem_cons_zero, Act.put, List.setIfInBounds_toArray, List.set_cons_zero, List.set_cons_succ])
        refine wpAnyH_take (i := 8) (v := .int .i64 (k3 : Int)) rfl (by kernel_rfl) (by kernel_rfl) (by kernel_rfl) (fun _ _ _ h => h) (Or.inl ⟨by rfl, by intro w' hS'; go_simp <;> (first | omega | (rw [IntKind.wrap_i64]; omega) | (rw [IntKind.wrap_u64]; omega) | (rw [IntKind.wrap_u32]; omega) | (rw [Int.tmod_eq_emod_of_nonneg (by omega)]) | rfl)⟩) hSd ?_
        (try simp only [List.getElem_toArray, List.getElem_cons_succ, List.getElem_cons_zero, Act.put, List.setIfInBounds_toArray, List.set_cons_zero, List.set_cons_succ])
        refine held_stepS (i := 3) (by kernel_rfl) rfl (by rfl) ?_
        go_simp
        refine (HPX.out _).mono ?_
        rintro e w5 ⟨rfl, hb⟩
        have hS5 := HSK.out _ _ hSd hb
        clear hb
        refine ⟨hS5, ?_⟩
        (try simp only [List.getElem_toArray, List.getElem_cons_succ, List.getElem_cons_zero, Act.put, List.setIfInBounds_toArray, List.set_cons_zero, List.set_cons_succ])
        have hm1 : ¬ 9223372036854775807 < acc.size + X.size := by omega
        have hs1 := HA1.out
        refine wpAnyH_take (i := 4) (v := .string (acc ++ X)) rfl (by kernel_rfl) (by kernel_rfl) (by kernel_rfl) (fun _ _ _ h => h) (Or.inl ⟨by rfl, by intro w' hS'; go_simp <;> (first | omega | (rw [IntKind.wrap_i64]; omega) | (rw [IntKind.wrap_u64]; omega) | (rw [IntKind.wrap_u32]; omega) | (rw [Int.tmod_eq_emod_of_nonneg (by omega)]) | rfl)⟩) hS5 ?_
        (try simp only [List.getElem_toArray, List.getElem_cons_succ, List.getElem_cons_zero, Act.put, List.setIfInBounds_toArray, List.set_cons_zero, List.set_cons_succ])
        refine held_stepS (i := 9) (by kernel_rfl) rfl (by rfl) ?_
        go_simp
        refine (HP.out k3 _ (by omega)).mono ?_
        rintro e w6 ⟨rfl, hb⟩
        have hS6 := HSK.out _ _ hS5 hb
        clear hb
        refine ⟨hS6, ?_⟩
        (try simp only [List.getElem_toArray, List.getElem_cons_succ, List.getElem_cons_zero, Act.put, List.setIfInBounds_toArray, List.set_cons_zero, List.set_cons_succ])
        have hm2 : ¬ 9223372036854775807 < (acc ++ X).size + (pnB k3).size := by omega
        refine wpAnyH_take (i := 10) (v := .string ((acc ++ X) ++ pnB k3)) rfl (by kernel_rfl) (by kernel_rfl) (by kernel_rfl) (fun _ _ _ h => h) (Or.inl ⟨by rfl, by intro w' hS'; go_simp <;> (first | omega | (rw [IntKind.wrap_i64]; omega) | (rw [IntKind.wrap_u64]; omega) | (rw [IntKind.wrap_u32]; omega) | (rw [Int.tmod_eq_emod_of_nonneg (by omega)]) | rfl)⟩) hS6 ?_
        (try simp only [List.getElem_toArray, List.getElem_cons_succ, List.getElem_cons_zero, Act.put, List.setIfInBounds_toArray, List.set_cons_zero, List.set_cons_succ])
        refine wpAnyH_take (i := 11) (v := .string ((acc ++ X) ++ pnB k3)) rfl (by kernel_rfl) (by kernel_rfl) (by kernel_rfl) (fun _ _ _ h => h) (Or.inl ⟨by rfl, by intro w' hS'; go_simp <;> (first | omega | (rw [IntKind.wrap_i64]; omega) | (rw [IntKind.wrap_u64]; omega) | (rw [IntKind.wrap_u32]; omega) | (rw [Int.tmod_eq_emod_of_nonneg (by omega)]) | rfl)⟩) hS6 ?_
        (try simp only [List.getElem_toArray, List.getElem_cons_succ, List.getElem_cons_zero, Act.put, List.setIfInBounds_toArray, List.set_cons_zero, List.set_cons_succ])
        refine wpAnyH_done (by kernel_rfl) ?_ _
        have hbe := hS6
        rw [HSS.out] at hbe
        have HBE := hidT hbe.1
        clear hbe
        go_wp2_with fail
        go_roundw
        case rel => exact ⟨i + 1, by omega, by go_num, by rw [HNN.out]; try rfl, HBE⟩
        case measure => simp [trI]; omega
      | false =>
        have HPX : Hid (∀ w, Calls Tryd.prog 50 #[.string pp] w fun e w' => e = .returned (.string X) ∧ Below w.heap.size w w') := fun w => by have h := HPT.out pp w hsz.1; rw [HXE.out] at h; exact h
        have hN := HN.out rfl
        have HNN := hidT hN
        have hpk := pnB_size (n := k2) (by omega)
        clear hN HY HN
        go_wp2_with fail
        generalize wr.alloc (.cells #[.string pp, .bool false, .int .i64 (m2 : Int), .string pd] 38) = wA at HBX HBA ⊢
        generalize wr.heap.size = NB at HBX ⊢
        obtain ⟨S, hSS⟩ : ∃ S : World → Prop, S = fun w' => Below w.heap.size w w' ∧ w'.heap[NB]? = some (.cells #[.string pp, .bool false, .int .i64 (m2 : Int), .string pd] 38 (0, 0)) := ⟨_, rfl⟩
        have HSS := hidT hSS
        have hSd : S wA.drew := by rw [hSS]; exact ⟨HBA.out.drew, HBX.out⟩
        have HSK : Hid (∀ w1 w2 : World, S w1 → Below w1.heap.size w1 w2 → S w2) := fun w1 w2 h hb => by
          rw [HSS.out] at h ⊢
          exact ⟨blNd h.1 hb h.1.size, (hb.block _ (Array.getElem?_eq_some_iff.1 h.2).1).trans h.2⟩
        have HX0 : Hid (∀ w', S w' → w'.cell? ⟨NB, 0, none⟩ = some (.string pp)) := fun w' h => by rw [HSS.out] at h; exact cell_of_row _ _ 0 _ _ _ h.2
        have HX2 : Hid (∀ w', S w' → w'.cell? ⟨NB, 2, none⟩ = some (.int .i64 (m2 : Int))) := fun w' h => by rw [HSS.out] at h; exact cell_of_row _ _ 2 _ _ _ h.2
        have HX3 : Hid (∀ w', S w' → w'.cell? ⟨NB, 3, none⟩ = some (.string pd)) := fun w' h => by rw [HSS.out] at h; exact cell_of_row _ _ 3 _ _ _ h.2
        clear hSS
        refine wp_region_held (S := S) (by kernel_rfl) ?_
        change wpAnyH _ _ _ _ _ _ _ _ (World.drew _)
        refine wpAnyH_take (i := 0) (v := .string acc) rfl (by kernel_rfl) (by kernel_rfl) (by kernel_rfl) (fun _ _ _ h => h) (Or.inl ⟨by rfl, by intro w' hS'; go_simp <;> (first | omega | (rw [IntKind.wrap_i64]; omega) | (rw [IntKind.wrap_u64]; omega) | (rw [IntKind.wrap_u32]; omega) | (rw [Int.tmod_eq_emod_of_nonneg (by omega)]) | rfl)⟩) hSd ?_
        (try simp only [List.getElem_toArray, List.getElem_cons_succ, List.getElem_cons_zero, Act.put, List.setIfInBounds_toArray, List.set_cons_zero, List.set_cons_succ])
        refine wpAnyH_take (i := 1) (v := .pointer (some ⟨NB, 0, none⟩)) rfl (by kernel_rfl) (by kernel_rfl) (by kernel_rfl) (fun _ _ _ h => h) (Or.inl ⟨by rfl, by intro w' hS'; go_simp <;> (first | omega | (rw [IntKind.wrap_i64]; omega) | (rw [IntKind.wrap_u64]; omega) | (rw [IntKind.wrap_u32]; omega) | (rw [Int.tmod_eq_emod_of_nonneg (by omega)]) | rfl)⟩) hSd ?_
        (try simp only [List.getElem_toArray, List.getElem_cons_succ, List.getElem_cons_zero, Act.put, List.setIfInBounds_toArray, List.set_cons_zero, List.set_cons_succ])
        refine wpAnyH_take (i := 2) (v := .string pp) rfl (by kernel_rfl) (by kernel_rfl) (by kernel_rfl) (fun _ _ _ h => h) (Or.inl ⟨by rfl, by intro w' hS'; have hxx := HX0.out w' hS'; go_simp <;> (first | omega | (rw [IntKind.wrap_i64]; omega) | (rw [IntKind.wrap_u64]; omega) | (rw [IntKind.wrap_u32]; omega) | (rw [Int.tmod_eq_emod_of_nonneg (by omega)]) | rfl)⟩) hSd ?_
        (try simp only [List.getElem_toArray, List.getElem_cons_succ, List.getElem_cons_zero, Act.put, List.setIfInBounds_toArray, List.set_cons_zero, List.set_cons_succ])
        refine wpAnyH_take (i := 5) (v := .pointer (some ⟨NB, 2, none⟩)) rfl (by kernel_rfl) (by kernel_rfl) (by kernel_rfl) (fun _ _ _ h => h) (Or.inl ⟨by rfl, by intro w' hS'; go_simp <;> (first | omega | (rw [IntKind.wrap_i64]; omega) | (rw [IntKind.wrap_u64]; omega) | (rw [IntKind.wrap_u32]; omega) | (rw [Int.tmod_eq_emod_of_nonneg (by omega)]) | rfl)⟩) hSd ?_
        (try simp only [List.getElem_toArray, List.getElem_cons_succ, List.getElem_cons_zero, Act.put, List.setIfInBounds_toArray, List.set_cons_zero, List.set_cons_succ])
        refine wpAnyH_take (i := 6) (v := .int .i64 (m2 : Int)) rfl (by kernel_rfl) (by kernel_rfl) (by kernel_rfl) (fun _ _ _ h => h) (Or.inl ⟨by rfl, by intro w' hS'; have hxx := HX2.out w' hS'; go_simp <;> (first | omega | (rw [IntKind.wrap_i64]; omega) | (rw [IntKind.wrap_u64]; omega) | (rw [IntKind.wrap_u32]; omega) | (rw [Int.tmod_eq_emod_of_nonneg (by omega)]) | rfl)⟩) hSd ?_
        (try simp only [List.getElem_toArray, List.getElem_cons_succ, List.getElem_cons_zero, Act.put, List.setIfInBounds_toArray, List.set_cons_zero, List.set_cons_succ])
        refine wpAnyH_take (i := 7) (v := .int .i64 (k2 : Int)) rfl (by kernel_rfl) (by kernel_rfl) (by kernel_rfl) (fun _ _ _ h => h) (Or.inl ⟨by rfl, by intro w' hS'; go_simp <;> (first | omega | (rw [IntKind.wrap_i64]; omega) | (rw [IntKind.wrap_u64]; omega) | (rw [IntKind.wrap_u32]; omega) | (rw [Int.tmod_eq_emod_of_nonneg (by omega)]) | rfl)⟩) hSd ?_
        (try simp only [List.getElem_toArray, List.getElem_cons_succ, List.getElem_cons_zero, Act.put, List.setIfInBounds_toArray, List.set_cons_zero, List.set_cons_succ])
        refine wpAnyH_take (i := 10) (v := .pointer (some ⟨NB, 3, none⟩)) rfl (by kernel_rfl) (by kernel_rfl) (by kernel_rfl) (fun _ _ _ h => h) (Or.inl ⟨by rfl, by intro w' hS'; go_simp <;> (first | omega | (rw [IntKind.wrap_i64]; omega) | (rw [IntKind.wrap_u64]; omega) | (rw [IntKind.wrap_u32]; omega) | (rw [Int.tmod_eq_emod_of_nonneg (by omega)]) | rfl)⟩) hSd ?_
        (try simp only [List.getElem_toArray, List.getElem_cons_succ, List.getElem_cons_zero, Act.put, List.setIfInBounds_toArray, List.set_cons_zero, List.set_cons_succ])
        refine wpAnyH_take (i := 11) (v := .string pd) rfl (by kernel_rfl) (by kernel_rfl) (by kernel_rfl) (fun _ _ _ h => h) (Or.inl ⟨by rfl, by intro w' hS'; have hxx := HX3.out w' hS'; go_simp <;> (first | omega | (rw [IntKind.wrap_i64]; omega) | (rw [IntKind.wrap_u64]; omega) | (rw [IntKind.wrap_u32]; omega) | (rw [Int.tmod_eq_emod_of_nonneg (by omega)]) | rfl)⟩) hSd ?_
        (try simp only [List.getElem_toArray, List.getElem_cons_succ, List.getElem_cons_zero, Act.put, List.setIfInBounds_toArray, List.set_cons_zero, List.set_cons_succ])
        refine held_stepS (i := 3) (by kernel_rfl) rfl (by rfl) ?_
        go_simp
        refine (HPX.out _).mono ?_
        rintro e w5 ⟨rfl, hb⟩
        have hS5 := HSK.out _ _ hSd hb
        clear hb
        refine ⟨hS5, ?_⟩
        (try simp only [List.getElem_toArray, List.getElem_cons_succ, List.getElem_cons_zero, Act.put, List.setIfInBounds_toArray, List.set_cons_zero, List.set_cons_succ])
        have hm1 : ¬ 9223372036854775807 < acc.size + X.size := by omega
        have hs1 := HA1.out
        refine wpAnyH_take (i := 4) (v := .string (acc ++ X)) rfl (by kernel_rfl) (by kernel_rfl) (by kernel_rfl) (fun _ _ _ h => h) (Or.inl ⟨by rfl, by intro w' hS'; go_simp <;> (first | omega | (rw [IntKind.wrap_i64]; omega) | (rw [IntKind.wrap_u64]; omega) | (rw [IntKind.wrap_u32]; omega) | (rw [Int.tmod_eq_emod_of_nonneg (by omega)]) | rfl)⟩) hS5 ?_
        (try simp only [List.getElem_toArray, List.getElem_cons_succ, List.getElem_cons_zero, Act.put, List.setIfInBounds_toArray, List.set_cons_zero, List.set_cons_succ])
        refine held_stepS (i := 8) (by kernel_rfl) rfl (by rfl) ?_
        go_simp
        refine (HP.out k2 _ (by omega)).mono ?_
        rintro e w6 ⟨rfl, hb⟩
        have hS6 := HSK.out _ _ hS5 hb
        clear hb
        refine ⟨hS6, ?_⟩
        (try simp only [List.getElem_toArray, List.getElem_cons_succ, List.getElem_cons_zero, Act.put, List.setIfInBounds_toArray, List.set_cons_zero, List.set_cons_succ])
        have hm2 : ¬ 9223372036854775807 < (acc ++ X).size + (pnB k2).size := by omega
        have hs2 : ((acc ++ X) ++ pnB k2).size = (acc ++ X).size + (pnB k2).size := ByteArray.size_append
        refine wpAnyH_take (i := 9) (v := .string ((acc ++ X) ++ pnB k2)) rfl (by kernel_rfl) (by kernel_rfl) (by kernel_rfl) (fun _ _ _ h => h) (Or.inl ⟨by rfl, by intro w' hS'; go_simp <;> (first | omega | (rw [IntKind.wrap_i64]; omega) | (rw [IntKind.wrap_u64]; omega) | (rw [IntKind.wrap_u32]; omega) | (rw [Int.tmod_eq_emod_of_nonneg (by omega)]) | rfl)⟩) hS6 ?_
        (try simp only [List.getElem_toArray, List.getElem_cons_succ, List.getElem_cons_zero, Act.put, List.setIfInBounds_toArray, List.set_cons_zero, List.set_cons_succ])
        refine held_stepS (i := 12) (by kernel_rfl) rfl (by rfl) ?_
        go_simp
        refine (HPT.out pd _ hsz.2).mono ?_
        rintro e w7 ⟨rfl, hb⟩
        have hS7 := HSK.out _ _ hS6 hb
        clear hb
        refine ⟨hS7, ?_⟩
        (try simp only [List.getElem_toArray, List.getElem_cons_succ, List.getElem_cons_zero, Act.put, List.setIfInBounds_toArray, List.set_cons_zero, List.set_cons_succ])
        have hm3 : ¬ 9223372036854775807 < ((acc ++ X) ++ pnB k2).size + (putTextOut pd).size := by omega
        refine wpAnyH_take (i := 13) (v := .string (((acc ++ X) ++ pnB k2) ++ putTextOut pd)) rfl (by kernel_rfl) (by kernel_rfl) (by kernel_rfl) (fun _ _ _ h => h) (Or.inl ⟨by rfl, by intro w' hS'; go_simp <;> (first | omega | (rw [IntKind.wrap_i64]; omega) | (rw [IntKind.wrap_u64]; omega) | (rw [IntKind.wrap_u32]; omega) | (rw [Int.tmod_eq_emod_of_nonneg (by omega)]) | rfl)⟩) hS7 ?_
        (try simp only [List.getElem_toArray, List.getElem_cons_succ, List.getElem_cons_zero, Act.put, List.setIfInBounds_toArray, List.set_cons_zero, List.set_cons_succ])
        refine wpAnyH_take (i := 14) (v := .string (((acc ++ X) ++ pnB k2) ++ putTextOut pd)) rfl (by kernel_rfl) (by kernel_rfl) (by kernel_rfl) (fun _ _ _ h => h) (Or.inl ⟨by rfl, by intro w' hS'; go_simp <;> (first | omega | (rw [IntKind.wrap_i64]; omega) | (rw [IntKind.wrap_u64]; omega) | (rw [IntKind.wrap_u32]; omega) | (rw [Int.tmod_eq_emod_of_nonneg (by omega)]) | rfl)⟩) hS7 ?_
        (try simp only [List.getElem_toArray, List.getElem_cons_succ, List.getElem_cons_zero, Act.put, List.setIfInBounds_toArray, List.set_cons_zero, List.set_cons_succ])
        refine wpAnyH_done (by kernel_rfl) ?_ _
        have hbe := hS7
        rw [HSS.out] at hbe
        have HBE := hidT hbe.1
        clear hbe
        go_wp2_with fail
        go_roundw
        case rel => exact ⟨i + 1, by omega, by go_num, by rw [HNN.out]; try rfl, HBE⟩
        case measure => simp [trI]; omega
    · obtain rfl : i = n := by omega
      go_wp2_with fail
      go_ret
      exact ⟨rfl, HB.out⟩
set_option maxRecDepth 100000 in
theorem stx_no (v : Value) (n : Nat) (F : Nat → NdI) (w : World) (hF : NdLe F n) (hok : ¬ ndR F n) (hr : NdArg w v n F) :
    Calls Tryd.prog 18 #[v] w fun e w' => e = .returned (.string ⟨#[]⟩) ∧ Below w.heap.size w w' := by
  have HK : Hid (Calls Tryd.prog 31 #[v] w fun e w' => e = .returned (.bool false) ∧ Below w.heap.size w w') := by
    have h2 := streeOk_any v n F w hF hr
    rw [ndB_no hok] at h2
    exact h2
  obtain ⟨a, c, rfl, _⟩ := hr
  clear hok hF
  go_enter Tryd.func18, Tryd.ntmps18
  go_wp2_with fail
  refine HK.out.mono ?_
  rintro e w1 ⟨rfl, hb1⟩
  go_wp2_with fail
  go_ret
  exact ⟨rfl, hb1⟩
theorem stx_any (v : Value) (n : Nat) (F : Nat → NdI) (w : World) (hF : NdLe F n) (hr : NdArg w v n F) :
    Calls Tryd.prog 18 #[v] w fun e w' => e = .returned (.string (txV F n)) ∧ Below w.heap.size w w' := by
  by_cases h : ndR F n
  · rw [txV_yes h]
    obtain ⟨a, c, rfl, hr⟩ := hr
    exact stx_yes a c n F w hF h hr
  · rw [txV_no h]
    exact stx_no v n F w hF h hr
end Go.Proofs.YtadimakdjndcdaeDoor
