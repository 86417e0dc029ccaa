/-
  The specification's ops: the files behind one.
-/
import Derived.Test.YtanlggglbpibfaaSfD
import Derived.Test.YtanlggglbpibfaaFlV
namespace Go.Proofs.Ytanlggglbpibfaa
open Go.RowKit
set_option linter.unusedVariables false
set_option linter.unusedSimpArgs false
theorem em_app (d : ByteArray) : (⟨#[]⟩ : ByteArray) ++ d = d := by apply ByteArray.ext; simp
/-- what an op does: the files behind it and whether it found its file -/
def DoAns (w : World) (L : List FlI) (o : DqI) (e : Ending) (w' : World) : Prop := ∃ u M b, e = .returned (.tuple #[u, .bool b]) ∧ FlW w.heap.size w w' u M ∧ ((b = true ∧ doF L o = some M) ∨ (b = false ∧ doF L o = none ∧ M = L))
set_option maxRecDepth 100000 in
set_option maxHeartbeats 2500000 in
theorem sdo15_any (v : Value) (L : List FlI) (m : Int) (a p d : ByteArray) (w : World) (hL : FlLe L) (hr : riseF L) (hs : ∀ f ∈ L, f.d.size + d.size ≤ 1500000) (hd : d.size ≤ 1500000) (h : FlV w v L) :
    Calls Try.prog 43 #[v, dqV m a p d] w (DoAns w L ⟨m, a, p, d⟩) := by
  have HAT : Hid (∀ (s : ByteArray) w', Below w.heap.size w w' → Calls Try.prog 64 #[v, .string s] w' fun e w'' => atP L s e ∧ w'' = w') := fun s w' hb => sat15_any v L s w' hL (h.below hb).arg
  have HPU : Hid (∀ (s d : ByteArray) w', Below w.heap.size w w' → Calls Try.prog 81 #[v, .string s, .string d] w' (FlAns w' (putF L s d))) := fun s d w' hb => sput_any v L s d w' hL hr (h.below hb).arg
  have HCU : Hid (∀ (s : ByteArray) w', Below w.heap.size w w' → Calls Try.prog 82 #[v, .string s] w' (FlAns w' (cutF L s))) := fun s w' hb => scut_any v L s w' hL (h.below hb).arg
  have HPC : Hid (∀ (u : Value) (s t d : ByteArray) w', FlV w' u (cutF L s) → Calls Try.prog 81 #[u, .string t, .string d] w' (FlAns w' (putF (cutF L s) t d))) := fun u s t d w' hu => sput_any u (cutF L s) t d w' ⟨by have := cutF_len L s; have := hL.len; omega, fun f hf => hL.sz f (cutF_mem hf).1⟩ (riseF_cut hr s) hu.arg
  have HV : Hid (∀ w', Below w.heap.size w w' → FlV w' v L) := fun w' hb => h.below hb
  have HRW : Hid (∀ i w', i < L.length → Below w.heap.size w w' → ∃ g c, v = .slice (some ⟨g, 0, none⟩) L.length c ∧ w'.cell? ⟨g, 2 * i + 1, none⟩ = some (.string (flF L i).d)) := fun i w' hi hb => by
    rcases h with ⟨_, rfl⟩ | ⟨g, c, e, hr⟩
    · simp at hi
    · exact ⟨g, c, e, (hr.below hb hr.lt).c1 i hi⟩
  have HSZ : Hid (∀ i, i < L.length → (flF L i).d.size + d.size ≤ 1500000) := fun i hi => by rw [flF_at hi]; exact hs _ (List.getElem_mem hi)
  have hn9 : L.length ≤ 1100000 := hL.len
  have HB1 : Hid (Below w.heap.size w (w.alloc (.cells #[.int .i64 m, .string a, .string p, .string d] 36))) := (Below.refl _ _).alloc (Nat.le_refl _) _
  have HX1 : Hid ((w.alloc (.cells #[.int .i64 m, .string a, .string p, .string d] 36)).heap[w.heap.size]? = some (.cells #[.int .i64 m, .string a, .string p, .string d] 36 (0, 0))) := heap_alloc_new w _
  obtain ⟨i0, hi0, hz0, hz1, hz2⟩ := info_parts Try.infFl
  clear hL hr hs h
  unfold dqV
  go_enter Try.func43, Try.ntmps43
  go_wp2_with fail
  refine (HAT.out a _ HB1.out).mono ?_
  rintro e w2 ⟨hat, hw2⟩
  subst w2
  clear HAT
  generalize hw1 : w.alloc (.cells #[.int .i64 m, .string a, .string p, .string d] 36) = w1 at HB1 HX1 ⊢
  clear hw1
  obtain ⟨bk, hbk⟩ : ∃ bk, bk = w.heap.size := ⟨_, rfl⟩
  rw [← hbk] at HX1 ⊢
  have c0 := cell_of_row _ _ 0 _ _ _ HX1.out
  have c1 := cell_of_row _ _ 1 _ _ _ HX1.out
  have c2 := cell_of_row _ _ 2 _ _ _ HX1.out
  have c3 := cell_of_row _ _ 3 _ _ _ HX1.out
  have HBK := hidF hbk
  clear hbk
  by_cases hm : m = 1
  · subst hm
    rcases hat with ⟨hf, rfl⟩ | ⟨i, hi, hia, hf, rfl⟩
    · have HDO : Hid (doF L ⟨1, a, p, d⟩ = some (putF L a d)) := by show _ = _; unfold doF; rw [if_pos rfl, hf]; show some (putF L a (⟨#[]⟩ ++ d)) = _; rw [em_app]
      clear hf
      go_wp2_with fail
      refine (HPU.out a d _ HB1.out).mono ?_
      rintro e w3 ⟨u, rfl, hu⟩
      have HU := hidF (hu.from HB1.out)
      clear hu
      go_wp2_with fail
      go_ret2
      exact ⟨_, _, true, rfl, HU.out, Or.inl ⟨rfl, HDO.out⟩⟩
    · obtain ⟨g, c, rfl, x1⟩ := HRW.out i _ hi HB1.out
      obtain ⟨q, hq⟩ : ∃ q, q = 2 * i := ⟨_, rfl⟩
      rw [← hq] at x1
      have hiq : i * 2 = q := by omega
      have hiI : (i : Int) < (L.length : Int) := by omega
      have hsz := HSZ.out i hi
      have HDO : Hid (doF L ⟨1, a, p, d⟩ = some (putF L a ((flF L i).d ++ d))) := by show _ = _; unfold doF; rw [if_pos rfl, hf]; rfl
      clear hf hia hq
      generalize (flF L i).d = fd at x1 HDO hsz
      go_wp2_with fail
      refine (HPU.out a (fd ++ d) _ HB1.out).mono ?_
      rintro e w3 ⟨u, rfl, hu⟩
      have HU := hidF (hu.from HB1.out)
      clear hu
      go_wp2_with fail
      go_ret2
      exact ⟨_, _, true, rfl, HU.out, Or.inl ⟨rfl, HDO.out⟩⟩
  · have hm1 : (m == 1) = false := beq_eq_false_iff_ne.2 hm
    rcases hat with ⟨hf, rfl⟩ | ⟨i, hi, hia, hf, rfl⟩
    · have HDO : Hid (doF L ⟨m, a, p, d⟩ = none) := by show _ = _; unfold doF; rw [if_neg hm, hf]
      have hown0 : (w1.alloc (.cells #[] 88)).ownsRow w1.heap.size 88 2 (.slice (some ⟨w1.heap.size, 0, none⟩) 0 0) ([] : List FlI).length (flC []) := World.ownsRow_made (e := 88) (size := 2) w1 #[] 0 (Nat.le_refl _) (by unfold maxLen; omega) rfl
      have HBA : Hid (Below w.heap.size w (w1.alloc (.cells #[] 88))) := HB1.out.alloc HB1.out.size _
      have HOW := hidF hown0
      have hvv := HV.out _ HBA.out
      obtain ⟨a0, cc, hav⟩ : ∃ a0 cc, v = .slice a0 L.length cc := by obtain ⟨a0, cc, e, _⟩ := hvv.arg; exact ⟨a0, cc, e⟩
      subst hav
      have HVV := hidF hvv
      clear hf hm hown0 hvv
      go_wp2_with (at_builtin; (refine append_fls rfl _ _ 24 rfl w1.heap.size i0 _ Try.underlying24 hi0 hz0 hz1 hz2 rfl _ _ [] L rfl HOW.out rfl HVV.out ?k3 ?k5 ?_))
      case k3 => simp; omega
      case k5 => first | omega | (rw [World.size_alloc]; omega)
      intro v6 w6 hown6 hgrow6
      have hb6 : Below w.heap.size w w6 := HBA.out.grown hgrow6 (by rw [World.size_alloc]; have := HB1.out.size; omega) (fun k hk => by have e1 : w1.heap.size = k := Option.some.inj hk; have := HB1.out.size; omega)
      have H6 : Hid (FlW w.heap.size w w6 v6 L) := ⟨ownF_base hown6 HB1.out.size, hb6, Nat.le_refl _, hb6.size⟩
      clear hown6 hgrow6 hb6
      go_wp2_with fail
      go_ret2
      exact ⟨_, _, false, rfl, H6.out, Or.inr ⟨rfl, HDO.out, rfl⟩⟩
    · obtain ⟨g, c, rfl, _⟩ := HRW.out i _ hi HB1.out
      have hiI : (i : Int) < (L.length : Int) := by omega
      go_wp2_with fail
      refine (HCU.out a _ HB1.out).mono ?_
      rintro e w3 ⟨u, rfl, hu⟩
      have HU1 := hidF hu
      have HU := hidF (hu.from HB1.out)
      have HX3 : Hid (w3.heap[bk]? = some (.cells #[.int .i64 m, .string a, .string p, .string d] 36 (0, 0))) := (hu.bel.block _ (Array.getElem?_eq_some_iff.1 HX1.out).1).trans HX1.out
      clear hu c0 c1 c2 c3
      have c0 := cell_of_row _ _ 0 _ _ _ HX3.out
      by_cases h2 : m = 2
      · subst h2
        have HDO : Hid (doF L ⟨2, a, p, d⟩ = some (putF (cutF L a) p (flF L i).d)) := by show _ = _; unfold doF; rw [if_neg hm, hf]; simp
        obtain ⟨q, hq⟩ : ∃ q, q = 2 * i := ⟨_, rfl⟩
        have hiq : i * 2 = q := by omega
        obtain ⟨S, hS⟩ : ∃ S : World → Prop, S = fun w' => w'.cell? ⟨bk, 2, none⟩ = some (.string p) ∧ w'.cell? ⟨g, q + 1, none⟩ = some (.string (flF L i).d) := ⟨_, rfl⟩
        have hSd : S w3.drew := by
          rw [hS]
          refine ⟨cell_of_row _ _ 2 _ _ _ HX3.out, ?_⟩
          obtain ⟨g2, c2, e2, x⟩ := HRW.out i w3 hi HU.out.bel
          cases e2
          rw [hq]; exact x
        have HSX : Hid (∀ w', S w' → w'.cell? ⟨bk, 2, none⟩ = some (.string p) ∧ w'.cell? ⟨g, q + 1, none⟩ = some (.string (flF L i).d)) := fun w' h => by rw [hS] at h; exact h
        have HSW : Hid (S = fun w' => w'.cell? ⟨bk, 2, none⟩ = some (.string p) ∧ w'.cell? ⟨g, q + 1, none⟩ = some (.string (flF L i).d)) := hS
        have HSA : Hid (∀ w', Below w3.heap.size w3 w' → S w') := fun w' hb => by
          rw [HSW.out]
          refine ⟨cell_of_row _ _ 2 _ _ _ ((hb.block _ (Array.getElem?_eq_some_iff.1 HX3.out).1).trans HX3.out), ?_⟩
          obtain ⟨g2, c2, e2, x⟩ := HRW.out i w' hi (blFl HU.out.bel hb HU.out.bel.size)
          cases e2
          rw [hq]; exact x
        have HDR : Hid (Below w3.heap.size w3 w3.drew) := (Below.refl _ _).drew
        obtain ⟨M, hM⟩ : ∃ M, M = cutF L a := ⟨_, rfl⟩
        have HUD : Hid (FlV w3.drew u (cutF L a)) := HU1.out.v.below HDR.out
        have hbD := blFl HU.out.bel HDR.out HU.out.bel.size
        have HBD := hidF hbD
        generalize (flF L i).d = fd at HDO hSd HSX HSW HSA
        clear hf hia hq hS hM hbD hm hm1
        go_wp2_with fail
        refine wp_region_held (S := S) (by kernel_rfl) ?_
        change wpAnyH _ _ _ _ _ _ _ _ (World.drew _)
        generalize w3.drew = X2 at hSd HUD HBD HDR ⊢
        refine wpAnyH_take (i := 0) (v := u) rfl (by kernel_rfl) (by kernel_rfl) (by kernel_rfl) (fun _ _ _ h => h) (Or.inl ⟨by rfl, by intro w' hS'; go_simp <;> (first | omega | (rw [IntKind.wrap_i64]; omega) | (rw [IntKind.wrap_u64]; omega) | (rw [IntKind.wrap_u32]; omega) | (rw [Int.tmod_eq_emod_of_nonneg (by omega)]) | rfl)⟩) hSd ?_
        (try simp only [List.getElem_toArray, List.getElem_cons_succ, List.getElem_cons_zero, Act.put, List.setIfInBounds_toArray, List.set_cons_zero, List.set_cons_succ])
        refine wpAnyH_take (i := 1) (v := .pointer (some ⟨bk, 2, none⟩)) rfl (by kernel_rfl) (by kernel_rfl) (by kernel_rfl) (fun _ _ _ h => h) (Or.inl ⟨by rfl, by intro w' hS'; go_simp <;> (first | omega | (rw [IntKind.wrap_i64]; omega) | (rw [IntKind.wrap_u64]; omega) | (rw [IntKind.wrap_u32]; omega) | (rw [Int.tmod_eq_emod_of_nonneg (by omega)]) | rfl)⟩) hSd ?_
        (try simp only [List.getElem_toArray, List.getElem_cons_succ, List.getElem_cons_zero, Act.put, List.setIfInBounds_toArray, List.set_cons_zero, List.set_cons_succ])
        refine wpAnyH_take (i := 2) (v := .string p) rfl (by kernel_rfl) (by kernel_rfl) (by kernel_rfl) (fun _ _ _ h => h) (Or.inl ⟨by rfl, by intro w' hS'; have hxx := (HSX.out w' hS').1; go_simp <;> (first | omega | (rw [IntKind.wrap_i64]; omega) | (rw [IntKind.wrap_u64]; omega) | (rw [IntKind.wrap_u32]; omega) | (rw [Int.tmod_eq_emod_of_nonneg (by omega)]) | rfl)⟩) hSd ?_
        (try simp only [List.getElem_toArray, List.getElem_cons_succ, List.getElem_cons_zero, Act.put, List.setIfInBounds_toArray, List.set_cons_zero, List.set_cons_succ])
        refine wpAnyH_take (i := 3) (v := .slice (some ⟨g, 0, none⟩) L.length c) rfl (by kernel_rfl) (by kernel_rfl) (by kernel_rfl) (fun _ _ _ h => h) (Or.inl ⟨by rfl, by intro w' hS'; go_simp <;> (first | omega | (rw [IntKind.wrap_i64]; omega) | (rw [IntKind.wrap_u64]; omega) | (rw [IntKind.wrap_u32]; omega) | (rw [Int.tmod_eq_emod_of_nonneg (by omega)]) | rfl)⟩) hSd ?_
        (try simp only [List.getElem_toArray, List.getElem_cons_succ, List.getElem_cons_zero, Act.put, List.setIfInBounds_toArray, List.set_cons_zero, List.set_cons_succ])
        refine wpAnyH_take (i := 4) (v := .int .i64 (i : Int)) rfl (by kernel_rfl) (by kernel_rfl) (by kernel_rfl) (fun _ _ _ h => h) (Or.inl ⟨by rfl, by intro w' hS'; go_simp <;> (first | omega | (rw [IntKind.wrap_i64]; omega) | (rw [IntKind.wrap_u64]; omega) | (rw [IntKind.wrap_u32]; omega) | (rw [Int.tmod_eq_emod_of_nonneg (by omega)]) | rfl)⟩) hSd ?_
        (try simp only [List.getElem_toArray, List.getElem_cons_succ, List.getElem_cons_zero, Act.put, List.setIfInBounds_toArray, List.set_cons_zero, List.set_cons_succ])
        refine wpAnyH_take (i := 5) (v := .pointer (some ⟨g, q, none⟩)) rfl (by kernel_rfl) (by kernel_rfl) (by kernel_rfl) (fun _ _ _ h => h) (Or.inl ⟨by rfl, by intro w' hS'; go_simp <;> (first | omega | (rw [IntKind.wrap_i64]; omega) | (rw [IntKind.wrap_u64]; omega) | (rw [IntKind.wrap_u32]; omega) | (rw [Int.tmod_eq_emod_of_nonneg (by omega)]) | rfl)⟩) hSd ?_
        (try simp only [List.getElem_toArray, List.getElem_cons_succ, List.getElem_cons_zero, Act.put, List.setIfInBounds_toArray, List.set_cons_zero, List.set_cons_succ])
        refine wpAnyH_take (i := 6) (v := .pointer (some ⟨g, q + 1, none⟩)) rfl (by kernel_rfl) (by kernel_rfl) (by kernel_rfl) (fun _ _ _ h => h) (Or.inl ⟨by rfl, by intro w' hS'; go_simp <;> (first | omega | (rw [IntKind.wrap_i64]; omega) | (rw [IntKind.wrap_u64]; omega) | (rw [IntKind.wrap_u32]; omega) | (rw [Int.tmod_eq_emod_of_nonneg (by omega)]) | rfl)⟩) hSd ?_
        (try simp only [List.getElem_toArray, List.getElem_cons_succ, List.getElem_cons_zero, Act.put, List.setIfInBounds_toArray, List.set_cons_zero, List.set_cons_succ])
        refine wpAnyH_take (i := 7) (v := .string fd) rfl (by kernel_rfl) (by kernel_rfl) (by kernel_rfl) (fun _ _ _ h => h) (Or.inl ⟨by rfl, by intro w' hS'; have hxx := (HSX.out w' hS').2; go_simp <;> (first | omega | (rw [IntKind.wrap_i64]; omega) | (rw [IntKind.wrap_u64]; omega) | (rw [IntKind.wrap_u32]; omega) | (rw [Int.tmod_eq_emod_of_nonneg (by omega)]) | rfl)⟩) hSd ?_
        (try simp only [List.getElem_toArray, List.getElem_cons_succ, List.getElem_cons_zero, Act.put, List.setIfInBounds_toArray, List.set_cons_zero, List.set_cons_succ])
        refine held_stepS (i := 8) (by kernel_rfl) rfl (by rfl) ?_
        go_simp
        refine (HPC.out u a p fd _ HUD.out).mono ?_
        rintro e w5 ⟨u5, rfl, hu5⟩
        have H5 := hidF (hu5.from HBD.out)
        refine ⟨HSA.out _ (blFl HDR.out hu5.bel HDR.out.size), ?_⟩
        (try simp only [List.getElem_toArray, List.getElem_cons_succ, List.getElem_cons_zero, Act.put, List.setIfInBounds_toArray, List.set_cons_zero, List.set_cons_succ])
        have hS5 := HSA.out _ (blFl HDR.out hu5.bel HDR.out.size)
        clear hu5
        refine wpAnyH_take (i := 9) (v := u5) rfl (by kernel_rfl) (by kernel_rfl) (by kernel_rfl) (fun _ _ _ h => h) (Or.inl ⟨by rfl, by intro w' hS'; go_simp <;> (first | omega | (rw [IntKind.wrap_i64]; omega) | (rw [IntKind.wrap_u64]; omega) | (rw [IntKind.wrap_u32]; omega) | (rw [Int.tmod_eq_emod_of_nonneg (by omega)]) | rfl)⟩) hS5 ?_
        (try simp only [List.getElem_toArray, List.getElem_cons_succ, List.getElem_cons_zero, Act.put, List.setIfInBounds_toArray, List.set_cons_zero, List.set_cons_succ])
        refine wpAnyH_done (by kernel_rfl) ?_ _
        go_wp2_with fail
        go_ret2
        exact ⟨_, _, true, rfl, H5.out, Or.inl ⟨rfl, HDO.out⟩⟩
      · have hm2 : (m == 2) = false := beq_eq_false_iff_ne.2 h2
        have HDO : Hid (doF L ⟨m, a, p, d⟩ = some (cutF L a)) := by show _ = _; unfold doF; rw [if_neg hm, hf]; simp [h2]
        clear hf hia hm h2
        go_wp2_with fail
        go_ret2
        exact ⟨_, _, true, rfl, HU.out, Or.inl ⟨rfl, HDO.out⟩⟩
end Go.Proofs.Ytanlggglbpibfaa
