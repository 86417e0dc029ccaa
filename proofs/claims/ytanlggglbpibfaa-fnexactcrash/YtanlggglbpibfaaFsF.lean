/-
  A set of files: a deed is done: a file is gone, or has another name.
-/
import Derived.Test.YtanlggglbpibfaaFsE
namespace Go.Proofs.Ytanlggglbpibfaa
open Go.RowKit
open Go.Maps (Keyed)
set_option linter.unusedVariables false
set_option linter.unusedSimpArgs false
theorem rem15_any {lo p mb : Nat} {L : List FlI} {V : ByteArray → Value} (s : ByteArray) (w : World) (h : FsW w lo p mb L V (sumD L)) (hs : s.size ≤ 1500000) (hn : sumD L ≤ 100000000) :
    Calls Try.prog 85 #[.pointer (some ⟨p, 0, none⟩), .string s] w fun e w' => e = .returned (.tuple #[]) ∧ FsW w' lo p mb (cutF L s) V (sumD (cutF L s)) ∧ FrK w w' lo p mb := by
  have hz := (cutF_size h.rise s).2
  cases hf : fdF L s with
  | none =>
    rw [hf] at hz
    exact rem15_no s w h hs hf hn hz
  | some d =>
    rw [hf] at hz
    exact rem15_yes s d w h hs hf hn hz
theorem FrK.row {w w' : World} {lo p mb : Nat} (h : FrK w w' lo p mb) {v : Value} {d : ByteArray} (hr : rowB w lo v d) (hk : ∀ k, v.ownBlock = some k → k ≠ p ∧ k ≠ mb) : rowB w' lo v d := hr.keep fun k hk2 => h.keep k (hr.lt hk2) (hk k hk2).1 (hk k hk2).2
set_option maxRecDepth 100000 in
set_option maxHeartbeats 1500000 in
theorem doM_any {lo p mb : Nat} {L : List FlI} {V : ByteArray → Value} (a : ByteArray) (w : World) (h : FsW w lo p mb L V (sumD L)) (ha : a ≠ ⟨#[]⟩) (hs : a.size ≤ 1500000) (hn : sumD L ≤ 100000000) :
    Calls Try.prog 49 #[.pointer (some ⟨p, 0, none⟩), rmV a] w fun e w' => e = .returned (.tuple #[]) ∧ (∃ V', FsW w' lo p mb (cutF L a) V' (sumD (cutF L a))) ∧ BF lo p w w' := by
  have HFI : Hid (Calls Try.prog 84 #[.pointer (some ⟨p, 0, none⟩), rmV a] w fun e w' => e = .returned (.bool (fdF L a).isSome) ∧ Below w.heap.size w w') := findsM_any a w h ha hs
  have HU : Hid (∀ w', Below w.heap.size w w' → FsW w' lo p mb L V (sumD L) ∧ BF lo p w w') := fun w' hb => ⟨h.under hb, BF.of_below hb (by have := h.base.1; have := h.plt.1; omega)⟩
  have HRM : Hid (∀ w', FsW w' lo p mb L V (sumD L) → Calls Try.prog 85 #[.pointer (some ⟨p, 0, none⟩), .string a] w' fun e w'' => e = .returned (.tuple #[]) ∧ FsW w'' lo p mb (cutF L a) V (sumD (cutF L a)) ∧ FrK w' w'' lo p mb) := fun w' h => rem15_any a w' h hs hn
  have HNO : Hid (fdF L a = none → cutF L a = L) := fun hf => cutF_id (fdF_none.1 hf)
  have hta := asMA (.agg #[.string a])
  have htb := asMR (.agg #[.string a])
  have htc := asMM (.agg #[.string a])
  clear h ha
  unfold rmV at HFI ⊢
  cases hf : fdF L a with
  | none =>
    rw [hf] at HFI
    have HL := hidF (HNO.out hf)
    clear hf
    go_enter Try.func49, Try.ntmps49
    go_wp2_with fail
    refine HFI.out.mono ?_
    rintro e w1 ⟨rfl, hb1⟩
    have HW := hidF (HU.out _ hb1)
    clear hb1
    go_wp2_with fail
    refine bodyPost_ret (results_none rfl _ _ _) rfl ?_
    rw [HL.out]
    exact ⟨rfl, ⟨_, HW.out.1⟩, HW.out.2⟩
  | some d =>
    rw [hf] at HFI
    clear hf
    go_enter Try.func49, Try.ntmps49
    go_wp2_with fail
    refine HFI.out.mono ?_
    rintro e w1 ⟨rfl, hb1⟩
    have HW := hidF (HU.out _ (hb1.alloc hb1.size (.cells #[.string a] 123)))
    clear hb1
    go_wp2_with fail
    refine (HRM.out _ HW.out.1).mono ?_
    rintro e w2 ⟨rfl, hF, hK⟩
    have HF := hidF hF
    have HK := hidF hK
    clear hF hK
    go_wp2_with fail
    go_end0
    exact ⟨rfl, ⟨_, HF.out⟩, HW.out.2.trans (HK.out.bf HW.out.1)⟩
theorem put_cut (L : List FlI) (hr : riseF L) (q x : ByteArray) : putF (cutF L q) q x = putF L q x :=
  fdF_ext (riseF_put (riseF_cut hr q) _ _) (riseF_put hr _ _) fun s => by
    by_cases e : s = q
    · subst e; rw [fdF_put_same, fdF_put_same]
    · rw [fdF_put_other _ _ e, fdF_put_other _ _ e, fdF_cut_other _ e]
theorem rkne {w : World} {lo bk : Nat} {a d : ByteArray} {v : Value} {x : ByteArray} (hb : w.heap[bk]? = some (.cells #[.string a, .string d] 121 (0, 0))) (hr : rowB w lo v x) : v.ownBlock ≠ some bk := fun c => by
  obtain ⟨_, cur, h2⟩ := hr.at c
  rw [hb] at h2
  injection h2 with h2
  injection h2 with _ h2 _
  exact absurd h2 (by decide)
theorem rkp {w : World} {lo bk p mb n : Nat} {L : List FlI} {V : ByteArray → Value} {a d : ByteArray} (hb : w.heap[bk]? = some (.cells #[.string a, .string d] 121 (0, 0))) (hr : FsW w lo p mb L V n) : bk ≠ p := fun c => by
  have h2 := hr.box
  rw [← c, hb] at h2
  injection h2 with h2
  injection h2 with _ h2 _
  exact absurd h2 (by decide)
theorem rkm {w : World} {lo bk p mb n : Nat} {L : List FlI} {V : ByteArray → Value} {a d : ByteArray} (hb : w.heap[bk]? = some (.cells #[.string a, .string d] 121 (0, 0))) (hr : FsW w lo p mb L V n) : bk ≠ mb := fun c => by
  obtain ⟨D, ⟨es, clock, h2, _⟩, _⟩ := hr.map
  rw [← c, hb] at h2
  injection h2 with h2
  cases h2
set_option maxRecDepth 100000 in
set_option maxHeartbeats 2500000 in
theorem doN_any {lo p mb : Nat} {L : List FlI} {V : ByteArray → Value} (a q : ByteArray) (w : World) (h : FsW w lo p mb L V (sumD L)) (ha : a ≠ ⟨#[]⟩) (hs : a.size ≤ 1500000) (hq : q.size ≤ 1500000) (hl : L.length ≤ 1000000) (hn : sumD L ≤ 100000000) :
    Calls Try.prog 49 #[.pointer (some ⟨p, 0, none⟩), rnV a q] w fun e w' => e = .returned (.tuple #[]) ∧ (∃ V', FsW w' lo p mb (match fdF L a with | none => L | some x => putF (cutF L a) q x) V' (sumD (match fdF L a with | none => L | some x => putF (cutF L a) q x))) ∧ BF lo p w w' := by
  have HFI : Hid (Calls Try.prog 84 #[.pointer (some ⟨p, 0, none⟩), rnV a q] w fun e w' => e = .returned (.bool (fdF L a).isSome) ∧ Below w.heap.size w w') := findsN_any a q w h ha hs
  have HU : Hid (∀ w', Below w.heap.size w w' → FsW w' lo p mb L V (sumD L) ∧ BF lo p w w') := fun w' hb => ⟨h.under hb, BF.of_below hb (by have := h.base.1; have := h.plt.1; omega)⟩
  have hta := asRA (.agg #[.string a, .string q])
  have htb := asRR (.agg #[.string a, .string q])
  have HRI := hidF h.rise
  unfold rnV at HFI ⊢
  cases hf : fdF L a with
  | none =>
    rw [hf] at HFI
    clear h ha hf
    go_enter Try.func49, Try.ntmps49
    go_wp2_with fail
    refine HFI.out.mono ?_
    rintro e w1 ⟨rfl, hb1⟩
    have HW := hidF (HU.out _ hb1)
    clear hb1
    go_wp2_with fail
    refine bodyPost_ret (results_none rfl _ _ _) rfl ?_
    exact ⟨rfl, ⟨_, HW.out.1⟩, HW.out.2⟩
  | some x =>
    rw [hf] at HFI
    simp only []
    have hmem := fdF_mem hf
    have hz1 := (cutF_size h.rise a).2
    rw [hf] at hz1
    have hxs : x.size ≤ 100000000 := by have := sumD_mem hmem; have e : (⟨a, x⟩ : FlI).d.size = x.size := rfl; omega
    have hz1 : sumD (cutF L a) + x.size = sumD L := hz1
    have hz2 := (cutF_size (riseF_cut h.rise a) q).2
    have hz3 := (putF_size (riseF_cut (riseF_cut h.rise a) q) q x).2
    rw [fdF_cut_same] at hz3
    have hz3 : sumD (putF (cutF (cutF L a) q) q x) + 0 = sumD (cutF (cutF L a) q) + x.size := hz3
    have hz4 : sumD (cutF (cutF L a) q) ≤ sumD (cutF L a) := by omega
    have HPC : Hid (putF (cutF (cutF L a) q) q x = putF (cutF L a) q x) := put_cut _ (riseF_cut h.rise a) q x
    obtain ⟨n2, hn2⟩ : ∃ n2, n2 = sumD (cutF (cutF L a) q) := ⟨_, rfl⟩
    obtain ⟨n9, hn9⟩ : ∃ n9, n9 = n2 + x.size := ⟨_, rfl⟩
    have HN9 : Hid (sumD (putF (cutF L a) q x) = n9) := by show _ = _; rw [← HPC.out]; omega
    have hw8 : IntKind.i64.wrap ((n2 : Int) + (x.size : Int)) = (n9 : Int) := by rw [IntKind.wrap_i64]; omega
    have hn8 : (n2 : Int) + (x.size : Int) = (n9 : Int) := by omega
    have HR1 : Hid (∀ w', FsW w' lo p mb L V (sumD L) → Calls Try.prog 85 #[.pointer (some ⟨p, 0, none⟩), .string a] w' fun e w'' => e = .returned (.tuple #[]) ∧ FsW w'' lo p mb (cutF L a) V (sumD (cutF L a)) ∧ FrK w' w'' lo p mb) := fun w' h => rem15_any a w' h hs hn
    have HR2 : Hid (∀ w', FsW w' lo p mb (cutF L a) V (sumD (cutF L a)) → Calls Try.prog 85 #[.pointer (some ⟨p, 0, none⟩), .string q] w' fun e w'' => e = .returned (.tuple #[]) ∧ FsW w'' lo p mb (cutF (cutF L a) q) V n2 ∧ FrK w' w'' lo p mb) := fun w' h => by rw [hn2]; exact rem15_any q w' h hq (by omega)
    have HAP : Hid (∀ g ∈ cutF (cutF L a) q, g.a ≠ q → ∀ k, (V a).ownBlock = some k → (V g.a).ownBlock ≠ some k) := fun g hg _ k hk => by
      obtain ⟨hg1, _⟩ := cutF_mem hg
      obtain ⟨hg2, hne⟩ := cutF_mem hg1
      exact h.rows.apart _ hmem g hg2 (fun c => hne c.symm) k hk
    have HLL : Hid ((cutF (cutF L a) q).length ≤ 1000000) := by show _ ≤ _; have := cutF_len (cutF L a) q; have := cutF_len L a; omega
    have HLV : Hid (∀ w', FsW w' lo p mb L V (sumD L) → ((Instr.lookup 96 (.map (some mb)) (.string a) false).run Try.prog w' = .ok (V a) w') ∧ rowB w' lo (V a) x ∧ ∀ k, (V a).ownBlock = some k → k ≠ p ∧ k ≠ mb) := fun w' hw => by
      obtain ⟨h1, h2⟩ := hw.look_yes hs hf
      exact ⟨h1.2, h2, fun k hk => hw.blk h2 hk⟩
    have HST : Hid (∀ w', FsW w' lo p mb (cutF (cutF L a) q) V n2 → rowB w' lo (V a) x → ∃ W2, (Instr.mapUpdate 96 (.map (some mb)) (.string q) (V a)).run Try.prog w' = .ok () W2 ∧ FsW W2 lo p mb (putF (cutF L a) q x) (updV V q (V a)) n2 ∧ w'.grownBy W2 (some mb)) := fun w' hw hr => by
      have := hw.stored hq HLL.out rfl rfl (fun _ _ _ _ _ => rfl) hr HAP.out
      rw [HPC.out] at this
      exact this
    clear h ha hf hmem hz1 hz2 hz3 hz4 hn2 hn9 HRI HLL HAP
    go_enter Try.func49, Try.ntmps49
    go_wp2_with fail
    refine HFI.out.mono ?_
    rintro e w1 ⟨rfl, hb1⟩
    have HW := hidF (HU.out _ (hb1.alloc hb1.size (.cells #[.string a, .string q] 121)))
    have HBK : Hid ((w1.alloc (.cells #[.string a, .string q] 121)).heap[w1.heap.size]? = some (.cells #[.string a, .string q] 121 (0, 0))) := heap_alloc_new w1 _
    obtain ⟨hlk, hrow, hpm⟩ := HLV.out _ (HW.out.1.heap (W' := (w1.alloc (.cells #[.string a, .string q] 121)).drew) rfl)
    have HPM := hidF hpm
    have HRW := hidF hrow
    have HDW : Hid (FsW (w1.alloc (.cells #[.string a, .string q] 121)).drew lo p mb L V (sumD L) ∧ BF lo p w (w1.alloc (.cells #[.string a, .string q] 121)).drew) := ⟨HW.out.1.heap rfl, HW.out.2.drew⟩
    have HBD : Hid ((w1.alloc (.cells #[.string a, .string q] 121)).drew.heap[w1.heap.size]? = some (.cells #[.string a, .string q] 121 (0, 0))) := HBK.out
    have c0 := cell_of_row _ _ 0 _ _ _ HW.out.1.box
    clear hpm hrow hb1
    go_wp2_with fail
    go_region
    clear hlk c0 HW HBK hta htb
    generalize (w1.alloc (.cells #[.string a, .string q] 121)).drew = w2 at HDW HBD HRW ⊢
    generalize w1.heap.size = bk at HBD ⊢
    have d0 := cell_of_row _ _ 0 _ _ _ HBD.out
    go_wp2_with fail
    refine (HR1.out _ HDW.out.1).mono ?_
    rintro e w3 ⟨rfl, hF3, hK3⟩
    have HF3 := hidF hF3
    have HB3 : Hid (BF lo p w w3) := HDW.out.2.trans (hK3.bf HDW.out.1)
    have HX3 : Hid (w3.heap[bk]? = some (.cells #[.string a, .string q] 121 (0, 0))) := (hK3.keep bk (Array.getElem?_eq_some_iff.1 HBD.out).1 (rkp HBD.out HDW.out.1) (rkm HBD.out HDW.out.1)).trans HBD.out
    have HW3 : Hid (rowB w3 lo (V a) x) := hK3.row HRW.out HPM.out
    clear hF3 hK3 d0 HDW HBD HRW
    have d1 := cell_of_row _ _ 1 _ _ _ HX3.out
    go_wp2_with fail
    refine (HR2.out _ HF3.out).mono ?_
    rintro e w4 ⟨rfl, hF4, hK4⟩
    have HF4 := hidF hF4
    have HB4 : Hid (BF lo p w w4) := HB3.out.trans (hK4.bf HF3.out)
    have HX4 : Hid (w4.heap[bk]? = some (.cells #[.string a, .string q] 121 (0, 0))) := (hK4.keep bk (Array.getElem?_eq_some_iff.1 HX3.out).1 (rkp HX3.out HF3.out) (rkm HX3.out HF3.out)).trans HX3.out
    have HW4 : Hid (rowB w4 lo (V a) x) := hK4.row HW3.out HPM.out
    clear hF4 hK4 d1 HX3 HF3 HB3 HW3
    obtain ⟨sa, sc, hvs⟩ := HW4.out.slice
    obtain ⟨S, hS⟩ : ∃ S : World → Prop, S = fun w' => w'.cell? ⟨p, 0, none⟩ = some (.map (some mb)) ∧ w'.cell? ⟨bk, 1, none⟩ = some (.string q) := ⟨_, rfl⟩
    have hSd : S w4.drew := by rw [hS]; exact ⟨cell_of_row _ _ 0 _ _ _ HF4.out.box, cell_of_row _ _ 1 _ _ _ HX4.out⟩
    have HSX : Hid (∀ w', S w' → w'.cell? ⟨p, 0, none⟩ = some (.map (some mb)) ∧ w'.cell? ⟨bk, 1, none⟩ = some (.string q)) := fun w' hq => by rw [hS] at hq; exact hq
    obtain ⟨W6, hr6, hF6, hg6⟩ := HST.out w4.drew (HF4.out.heap rfl) (HW4.out.keep fun k hk => rfl)
    have hS6 : S W6 := by
      rw [hS]
      refine ⟨cell_of_row _ _ 0 _ _ _ hF6.box, cell_of_row _ _ 1 _ _ _ ((hg6.block bk (Array.getElem?_eq_some_iff.1 HX4.out).1 (fun c => rkm HX4.out HF4.out (Option.some.inj c))).trans HX4.out)⟩
    have HF6 := hidF hF6
    have HB6 : Hid (BF lo p w W6) := by
      have h1 := HF4.out.plt
      have h2 := HF4.out.base
      refine HB4.out.drew.trans ⟨(Below.refl lo _).grown hg6 (by show lo ≤ w4.heap.size; omega) (fun k hk => by have e : mb = k := Option.some.inj hk; omega), fun k cs t k1 _ k3 => (hg6.block k (Array.getElem?_eq_some_iff.1 k1).1 (fun c => ?_)).trans k1⟩
      have c : k = mb := Option.some.inj c
      subst c
      obtain ⟨D, ⟨es, clock, hb, _⟩, _⟩ := HF4.out.map
      have k1 : w4.heap[k]? = some (.cells cs t (0, 0)) := k1
      rw [hb] at k1
      injection k1 with k1
      cases k1
    rw [hvs] at hr6
    clear hS hF6 hg6
    generalize hva : V a = va at *
    subst hvs
    go_wp2_with fail
    refine wp_region_held (S := S) (by kernel_rfl) ?_
    change wpAnyH _ _ _ _ _ _ _ _ (World.drew _)
    generalize w4.drew = X2 at hSd hr6 ⊢
    refine wpAnyH_take (i := 0) (v := .pointer (some ⟨p, 0, none⟩)) rfl (by kernel_rfl) (by kernel_rfl) (by kernel_rfl) (fun _ _ _ h => h) (Or.inl ⟨by rfl, by intro w' hS'; go_simp <;> (first | omega | rfl | (rw [IntKind.wrap_i64]; omega))⟩) hSd ?_
    (try simp only [List.getElem_toArray, List.getElem_cons_succ, List.getElem_cons_zero, Act.put, List.setIfInBounds_toArray, List.set_cons_zero, List.set_cons_succ])
    refine wpAnyH_take (i := 1) (v := .pointer (some ⟨p, 0, none⟩)) rfl (by kernel_rfl) (by kernel_rfl) (by kernel_rfl) (fun _ _ _ h => h) (Or.inl ⟨by rfl, by intro w' hS'; go_simp <;> (first | omega | rfl | (rw [IntKind.wrap_i64]; omega))⟩) hSd ?_
    (try simp only [List.getElem_toArray, List.getElem_cons_succ, List.getElem_cons_zero, Act.put, List.setIfInBounds_toArray, List.set_cons_zero, List.set_cons_succ])
    refine wpAnyH_take (i := 2) (v := .pointer (some ⟨p, 0, none⟩)) rfl (by kernel_rfl) (by kernel_rfl) (by kernel_rfl) (fun _ _ _ h => h) (Or.inl ⟨by rfl, by intro w' hS'; go_simp <;> (first | omega | rfl | (rw [IntKind.wrap_i64]; omega))⟩) hSd ?_
    (try simp only [List.getElem_toArray, List.getElem_cons_succ, List.getElem_cons_zero, Act.put, List.setIfInBounds_toArray, List.set_cons_zero, List.set_cons_succ])
    refine wpAnyH_take (i := 3) (v := .map (some mb)) rfl (by kernel_rfl) (by kernel_rfl) (by kernel_rfl) (fun _ _ _ h => h) (Or.inl ⟨by rfl, by intro w' hS'; have hxx := (HSX.out w' hS').1; go_simp <;> (first | omega | rfl | (rw [IntKind.wrap_i64]; omega))⟩) hSd ?_
    (try simp only [List.getElem_toArray, List.getElem_cons_succ, List.getElem_cons_zero, Act.put, List.setIfInBounds_toArray, List.set_cons_zero, List.set_cons_succ])
    refine wpAnyH_take (i := 4) (v := .pointer (some ⟨bk, 1, none⟩)) rfl (by kernel_rfl) (by kernel_rfl) (by kernel_rfl) (fun _ _ _ h => h) (Or.inl ⟨by rfl, by intro w' hS'; go_simp <;> (first | omega | rfl | (rw [IntKind.wrap_i64]; omega))⟩) hSd ?_
    (try simp only [List.getElem_toArray, List.getElem_cons_succ, List.getElem_cons_zero, Act.put, List.setIfInBounds_toArray, List.set_cons_zero, List.set_cons_succ])
    refine wpAnyH_take (i := 5) (v := .string q) rfl (by kernel_rfl) (by kernel_rfl) (by kernel_rfl) (fun _ _ _ h => h) (Or.inl ⟨by rfl, by intro w' hS'; have hxx := (HSX.out w' hS').2; go_simp <;> (first | omega | rfl | (rw [IntKind.wrap_i64]; omega))⟩) hSd ?_
    (try simp only [List.getElem_toArray, List.getElem_cons_succ, List.getElem_cons_zero, Act.put, List.setIfInBounds_toArray, List.set_cons_zero, List.set_cons_succ])
    refine wpAnyH_take (i := 6) (v := .slice sa x.size sc) rfl (by kernel_rfl) (by kernel_rfl) (by kernel_rfl) (fun _ _ _ h => h) (Or.inl ⟨by rfl, by intro w' hS'; go_simp <;> (first | omega | rfl | (rw [IntKind.wrap_i64]; omega))⟩) hSd ?_
    (try simp only [List.getElem_toArray, List.getElem_cons_succ, List.getElem_cons_zero, Act.put, List.setIfInBounds_toArray, List.set_cons_zero, List.set_cons_succ])
    refine held_stepS (i := 7) (by kernel_rfl) rfl (by rfl) ?_
    go_simp
    refine ⟨hS6, ?_⟩
    (try simp only [List.getElem_toArray, List.getElem_cons_succ, List.getElem_cons_zero, Act.put, List.setIfInBounds_toArray, List.set_cons_zero, List.set_cons_succ])
    refine wpAnyH_done (by kernel_rfl) ?_ _
    clear hSd hr6 hS6 HSX
    have c1 := cell_of_row _ _ 1 _ _ _ HF6.out.box
    have z1 := frozen_of_row _ p 1 _ _ HF6.out.box
    have HFN : Hid (∀ X : World, X.heap = W6.heap → Below W6.heap.size W6 X → FsW (X.setCell ⟨p, 1, none⟩ (.int .i64 (n9 : Int))) lo p mb (putF (cutF L a) q x) (updV V q (.slice sa x.size sc)) n9 ∧ FrK W6 (X.setCell ⟨p, 1, none⟩ (.int .i64 (n9 : Int))) lo p mb) := fun X he hb => HF6.out.numK he hb
    clear hn8
    have hX := HFN.out W6 rfl (Below.refl _ _)
    go_wp2_with fail
    go_end0
    rw [HN9.out]
    exact ⟨rfl, ⟨_, hX.1⟩, HB6.out.trans (hX.2.bf HF6.out)⟩
end Go.Proofs.Ytanlggglbpibfaa
