/-
  Grouped: the code.
-/
import Derived.Test.YtfegoldjejlcaaaDoorGrCmp
import Derived.Test.YtfegoldjejlcaaaDoorMbC
import Derived.Test.YtfegoldjejlcaaaDoorClone
import Derived.Laws.AppendOwn
namespace Go.Proofs.YtfegoldjejlcaaaDoor
open Go.RowKit
open Go.Sort (HoldsK SWO)
set_option linter.unusedVariables false
set_option linter.unusedSimpArgs false
/-- the first i members, in their order -/
def pf (F : Nat → MbI) : Nat → List MbI
  | 0 => []
  | i + 1 => pf F i ++ [F i]
theorem pf_len (F : Nat → MbI) : ∀ i, (pf F i).length = i
  | 0 => rfl
  | i + 1 => by show (pf F i ++ [F i]).length = _; rw [List.length_append, pf_len F i]; rfl
theorem pf_mem (F : Nat → MbI) (p : MbI) : ∀ n, p ∈ pf F n ↔ ∃ i, i < n ∧ F i = p
  | 0 => ⟨fun h => absurd h (by simp [pf]), fun ⟨i, h, _⟩ => by omega⟩
  | n + 1 => by
    show p ∈ pf F n ++ [F n] ↔ _
    rw [List.mem_append, List.mem_singleton, pf_mem F p n]
    constructor
    · rintro (⟨i, h, e⟩ | rfl)
      · exact ⟨i, by omega, e⟩
      · exact ⟨n, by omega, rfl⟩
    · rintro ⟨i, h, e⟩
      by_cases hi : i = n
      · subst hi; exact Or.inr e.symm
      · exact Or.inl ⟨i, by omega, e⟩
theorem pf_names {F : Nat → MbI} {n : Nat} (hu : mbU F n) : ∀ i, i ≤ n → (pf F i).Pairwise fun a b => a.a ≠ b.a
  | 0, _ => List.Pairwise.nil
  | i + 1, hi => by
    show (pf F i ++ [F i]).Pairwise _
    rw [List.pairwise_append]
    refine ⟨pf_names hu i (by omega), by simp, fun a ha b hb => ?_⟩
    obtain ⟨j, hj, rfl⟩ := (pf_mem F a i).1 ha
    rw [List.mem_singleton] at hb
    subst hb
    exact hu j i hj (by omega)
/-- a list that a sort has made of the members is the one that is asked -/
theorem grP_of {F : Nat → MbI} {n : Nat} {L : List MbI} (hu : mbU F n) (hp : L.Perm (pf F n)) (hs : L.Pairwise fun a b => ¬ gN b.a a.a) : GrP F n L := by
  refine ⟨by rw [hp.length_eq, pf_len], ?_, fun p => hp.mem_iff.trans (pf_mem F p n)⟩
  have hd : L.Pairwise fun a b => a.a ≠ b.a := (hp.pairwise_iff (fun {a b} h e => h e.symm)).2 (pf_names hu n (Nat.le_refl _))
  refine (List.Pairwise.and hs hd).imp fun {a b} h => ?_
  rcases gN_tri a.a b.a with k | k | k
  · exact k
  · exact absurd k h.2
  · exact absurd k h.1
open Classical in
/-- what Grouped answers -/
noncomputable def grL (F : Nat → MbI) (n : Nat) : List MbI := if mbR F n then gL F n else []
theorem grL_yes {F : Nat → MbI} {n : Nat} (h : mbR F n) : grL F n = gL F n := by unfold grL; rw [if_pos h]
theorem grL_no {F : Nat → MbI} {n : Nat} (h : ¬ mbR F n) : grL F n = [] := by unfold grL; rw [if_neg h]
theorem grL_len (F : Nat → MbI) (n : Nat) : (grL F n).length ≤ 60 := by
  by_cases h : mbR F n
  · rw [grL_yes h, gL_len]; exact h.1
  · rw [grL_no h]; exact Nat.zero_le _
theorem mb_two (a d : ByteArray) : ∀ u ∈ [Value.string a, .string d], u.oneCell' = true := by
  intro u hu
  simp only [List.mem_cons, List.not_mem_nil, or_false] at hu
  rcases hu with rfl | rfl <;> rfl
theorem cell_twoG {W : World} {x y : Value} {t : TypeId} {k : Nat} (hk : W.heap.size = k) : ∀ j u, [x, y][j]? = some u → (W.alloc (.cells #[x, y] t)).cell? ((⟨k, 0, none⟩ : Addr).add j) = some u := by
  subst hk
  intro j u hj
  match j, hj with
  | 0, hj => cases hj; exact cell_of_row _ _ 0 _ _ _ (heap_alloc_new W _)
  | 1, hj => cases hj; exact cell_of_row _ _ 1 _ _ _ (heap_alloc_new W _)
structure GW (w wr : World) (v : Value) (L : List MbI) : Prop where
  own : wr.ownsRow w.heap.size 46 2 v L.length (mbC L)
  bel : Below w.heap.size w wr
theorem GW.call {w wr w' : World} {v : Value} {L : List MbI} (h : GW w wr v L) (hb : Below wr.heap.size wr w') : GW w w' v L := ⟨own2_call h.own hb, blMb h.bel hb h.bel.size⟩
theorem Tryd.infMbG : (Tryd.prog.info? 46).map (fun i => (i.zero, i.size, i.bytes)) = some (some (.agg #[.string ⟨#[]⟩, .string ⟨#[]⟩]), 2, 32) := by kernel_rfl
set_option maxRecDepth 100000 in
set_option maxHeartbeats 8000000 in
theorem grp_yes (a : Option Addr) (c n : Nat) (F : Nat → MbI) (w : World) (hm : MxL w) (hF : MbLe F n) (hd : mbR F n) (h : MbArg w (.slice a n c) n F) :
    Calls Tryd.prog 22 #[.slice a n c] w fun e w' => (∃ v, e = .returned v ∧ w'.ownsRow w.heap.size 46 2 v (grL F n).length (mbC (grL F n))) ∧ Below w.heap.size w w' := by
  have HMX : Hid (∀ w', Below w.heap.size w w' → MxL w') := fun w' h => hm.on h
  have HGM : Hid (0 < w.heap.size) := hm.lt
  have HA : Hid (∀ w', Below w.heap.size w w' → MbArg w' (.slice a n c) n F) := fun w' hb => h.below hb
  have HOK : Hid (Calls Tryd.prog 62 #[.slice a n c] w fun e w' => e = .returned (.bool true) ∧ Below w.heap.size w w') := by
    have := mbs_any _ n F w hF h
    rw [mbB_yes hd] at this
    exact this
  have HCL : Hid (∀ (s : ByteArray) w, s.size ≤ 1100000 → Calls Tryd.prog 51 #[.string s] w fun e w' => e = .returned (.string s) ∧ Below w.heap.size w w') := fun s w h => clone_any s w (by omega)
  have HSO : Hid (∀ (v : Value) (L : List MbI) (w1 : World), L.length ≤ 60 → (∀ p ∈ L, p.a.size ≤ 1048576) → MxL w1 → 0 < L.length → w1.ownsRow w.heap.size 46 2 v L.length (mbC L) → Calls Tryd.prog 63 #[v, .func (.func 64) #[] #[]] w1 fun e w' => e = .returned (.tuple #[]) ∧ (∃ L', L'.Perm L ∧ L'.Pairwise (fun a b => ¬ gN b.a a.a) ∧ w'.ownsRow w.heap.size 46 2 v L.length (mbC L')) ∧ (∀ B0 w0, B0 ≤ w.heap.size → Below B0 w0 w1 → Below B0 w0 w')) := fun v L w1 h1 h2 h3 h4 h5 => sortM_any v L w.heap.size w1 h1 h2 h3 h4 hm.lt h5
  have HGL : Hid (grL F n = gL F n) := grL_yes hd
  have HD := hidT hd
  have HN : Hid (∀ i, i < n → (F i).a.size ≤ 120 ∧ (F i).a.size ≤ 1100000 ∧ (F i).d.size ≤ 1100000) := fun i hi => by
    have := hd.2.1 i hi
    have h2 := hF.n hi
    unfold mbN at this
    omega
  have hnI : (n : Int) ≤ 60 := by have := hd.1; omega
  obtain ⟨i0, hi, hz0, hz1, hz2⟩ := info_parts Tryd.infMbG
  have HST : Hid (GW w w (.slice none 0 0) (pf F 0)) := ⟨World.ownsRow_nil _ _ _ _, Below.refl _ _⟩
  clear hm hF hd h
  go_enter Tryd.func22, Tryd.ntmps22
  go_wp2_with fail
  refine HOK.out.mono ?_
  rintro e w1 ⟨rfl, hb1⟩
  have HS1 := hidT (HST.out.call hb1)
  clear hb1 HST HOK
  go_wp2_with fail
  go_loopw [3, 11] (fun v x wr => ∃ (i : Nat) (u : Value), i ≤ n ∧ x = .int .i64 (i : Int) ∧ u = v ∧ Hid (GW w wr u (pf F i))) (fun _ x _ => n - (intMb x).toNat)
  case atStart => exact ⟨0, _, by omega, rfl, rfl, HS1⟩
  case round =>
    clear HS1
    rename World => wr
    obtain ⟨i, v, hi2, rfl, rfl, GS⟩ := hrel
    by_cases hlt : i < n
    · have hltI : (i : Int) < (n : Int) := by omega
      obtain ⟨a2, c2, e2, hrow1⟩ := HA.out _ GS.out.bel
      obtain ⟨g, ea, hrow⟩ := hrow1 (by omega)
      cases e2
      subst ea
      clear hrow1
      obtain ⟨hs1, hs2, hs3⟩ := HN.out i hlt
      have HSZ := hidT (And.intro hs2 hs3)
      obtain ⟨q, hq⟩ : ∃ q, q = 2 * i := ⟨_, rfl⟩
      have x0 := hrow.c0 i hlt
      have x1 := hrow.c1 i hlt
      rw [← hq] at x0 x1
      have hiq : i * 2 = q := by omega
      have HLT := hidT hlt
      have HPF : Hid (pf F (i + 1) = pf F i ++ [F i]) := rfl
      have hpl := pf_len F i
      generalize F i = p at x0 x1 HSZ HPF hs1 hs2 hs3
      generalize pf F i = L at GS HPF hpl
      obtain ⟨pa, pd⟩ := p
      simp only at x0 x1 HSZ
      have hLn : L.length ≤ 60 := by omega
      have HLN := hidT hLn
      clear hq hrow hpl hs1 hs2 hs3 hLn
      have GB : Hid (GW w (wr.alloc (.cells #[.string pa, .string pd] 46)) v L) := GS.out.call ((Below.refl _ _).alloc (Nat.le_refl _) _)
      have hbx : (wr.alloc (.cells #[.string pa, .string pd] 46)).heap[wr.heap.size]? = some (.cells #[.string pa, .string pd] 46 (0, 0)) := heap_alloc_new wr _
      have HNV : Hid (∀ k, v.ownBlock = some k → k < wr.heap.size) := fun k hk => (GS.out.own.lt k hk).2
      have HBX := hidT hbx
      clear hbx GS
      go_wp2_with fail
      generalize wr.alloc (.cells #[.string pa, .string pd] 46) = wb at GB HBX ⊢
      generalize wr.heap.size = nb at HBX HNV ⊢
      obtain ⟨S, hSS⟩ : ∃ S : World → Prop, S = fun w' => w'.heap[nb]? = some (.cells #[.string pa, .string pd] 46 (0, 0)) := ⟨_, rfl⟩
      have HSS := hidT hSS
      have HX : Hid (∀ w', S w' → w'.cell? ⟨nb, 0, none⟩ = some (.string pa) ∧ w'.cell? ⟨nb, 1, none⟩ = some (.string pd)) := fun w' h => by
        rw [hSS] at h
        exact ⟨cell_of_row _ _ 0 _ _ _ h, cell_of_row _ _ 1 _ _ _ h⟩
      have HSB : Hid (∀ a b : World, S a → Below a.heap.size a b → S b) := fun a b h k => by
        rw [hSS] at h ⊢
        exact (k.block _ (Array.getElem?_eq_some_iff.1 h).1).trans h
      have hSd : S wb.drew := by rw [hSS]; exact HBX.out
      have GD : Hid (GW w wb.drew v L) := GB.out.call (Below.refl _ _).drew
      clear hSS x0 x1 hiq GB HBX
      refine wp_region_held (S := S) (by kernel_rfl) ?_
      change wpAnyH _ _ _ _ _ _ _ _ (World.drew _)
      generalize wb.drew = X2 at hSd GD ⊢
      refine wpAnyH_take (i := 0) (v := v) rfl (by kernel_rfl) (by kernel_rfl) (by kernel_rfl) (fun _ _ _ h => h) (Or.inl ⟨by rfl, by intro w' hS'; go_simp <;> (first | omega | (rw [IntKind.wrap_i64]; omega) | (rw [IntKind.wrap_u64]; omega) | rfl)⟩) hSd ?_
      (try simp only [List.getElem_toArray, List.getElem_cons_succ, List.getElem_cons_zero, Act.put, List.setIfInBounds_toArray, List.set_cons_zero, List.set_cons_succ])
      refine wpAnyH_take (i := 1) (v := .pointer (some ⟨nb, 0, none⟩)) rfl (by kernel_rfl) (by kernel_rfl) (by kernel_rfl) (fun _ _ _ h => h) (Or.inl ⟨by rfl, by intro w' hS'; go_simp <;> (first | omega | (rw [IntKind.wrap_i64]; omega) | (rw [IntKind.wrap_u64]; omega) | rfl)⟩) hSd ?_
      (try simp only [List.getElem_toArray, List.getElem_cons_succ, List.getElem_cons_zero, Act.put, List.setIfInBounds_toArray, List.set_cons_zero, List.set_cons_succ])
      refine wpAnyH_take (i := 2) (v := .string pa) rfl (by kernel_rfl) (by kernel_rfl) (by kernel_rfl) (fun _ _ _ h => h) (Or.inl ⟨by rfl, by intro w' hS'; have hxx := (HX.out w' hS').1; go_simp <;> (first | omega | (rw [IntKind.wrap_i64]; omega) | (rw [IntKind.wrap_u64]; omega) | rfl)⟩) hSd ?_
      (try simp only [List.getElem_toArray, List.getElem_cons_succ, List.getElem_cons_zero, Act.put, List.setIfInBounds_toArray, List.set_cons_zero, List.set_cons_succ])
      refine wpAnyH_take (i := 4) (v := .pointer (some ⟨nb, 1, none⟩)) rfl (by kernel_rfl) (by kernel_rfl) (by kernel_rfl) (fun _ _ _ h => h) (Or.inl ⟨by rfl, by intro w' hS'; go_simp <;> (first | omega | (rw [IntKind.wrap_i64]; omega) | (rw [IntKind.wrap_u64]; omega) | rfl)⟩) hSd ?_
      (try simp only [List.getElem_toArray, List.getElem_cons_succ, List.getElem_cons_zero, Act.put, List.setIfInBounds_toArray, List.set_cons_zero, List.set_cons_succ])
      refine wpAnyH_take (i := 5) (v := .string pd) rfl (by kernel_rfl) (by kernel_rfl) (by kernel_rfl) (fun _ _ _ h => h) (Or.inl ⟨by rfl, by intro w' hS'; have hxx := (HX.out w' hS').2; go_simp <;> (first | omega | (rw [IntKind.wrap_i64]; omega) | (rw [IntKind.wrap_u64]; omega) | rfl)⟩) hSd ?_
      (try simp only [List.getElem_toArray, List.getElem_cons_succ, List.getElem_cons_zero, Act.put, List.setIfInBounds_toArray, List.set_cons_zero, List.set_cons_succ])
      refine held_stepS (i := 3) (by kernel_rfl) rfl (by rfl) ?_
      go_simp
      refine (HCL.out pa _ HSZ.out.1).mono ?_
      rintro e w3 ⟨rfl, hb3⟩
      have hS3 := HSB.out _ _ hSd hb3
      have G3 := hidT (GD.out.call hb3)
      clear hb3 hSd GD
      refine ⟨hS3, ?_⟩
      (try simp only [List.getElem_toArray, List.getElem_cons_succ, List.getElem_cons_zero, Act.put, List.setIfInBounds_toArray, List.set_cons_zero, List.set_cons_succ])
      refine held_stepS (i := 6) (by kernel_rfl) rfl (by rfl) ?_
      go_simp
      refine (HCL.out pd _ HSZ.out.2).mono ?_
      rintro e w4 ⟨rfl, hb4⟩
      have hS4 := HSB.out _ _ hS3 hb4
      have G4 := hidT (G3.out.call hb4)
      clear hb4 hS3 G3
      refine ⟨hS4, ?_⟩
      (try simp only [List.getElem_toArray, List.getElem_cons_succ, List.getElem_cons_zero, Act.put, List.setIfInBounds_toArray, List.set_cons_zero, List.set_cons_succ])
      refine wpAnyH_take (i := 7) (v := .agg #[.string pa, .string pd]) rfl (by kernel_rfl) (by kernel_rfl) (by kernel_rfl) (fun _ _ _ h => h) (Or.inl ⟨by rfl, by intro w' hS'; go_simp <;> (first | omega | (rw [IntKind.wrap_i64]; omega) | (rw [IntKind.wrap_u64]; omega) | rfl)⟩) hS4 ?_
      (try simp only [List.getElem_toArray, List.getElem_cons_succ, List.getElem_cons_zero, Act.put, List.setIfInBounds_toArray, List.set_cons_zero, List.set_cons_succ])
      have hb5 : Below w4.heap.size w4 (w4.alloc (.cells #[.string pa, .string pd] 46)) := (Below.refl _ _).alloc (Nat.le_refl _) _
      have hS5 := HSB.out _ _ hS4 hb5
      have G5 := hidT (G4.out.call hb5)
      have hsz4 := G4.out.bel.size
      clear hb5 G4
      refine held_stepS (i := 8) (by kernel_rfl) rfl (by rfl) ?_
      go_simp
      refine ⟨hS5, ?_⟩
      (try simp only [List.getElem_toArray, List.getElem_cons_succ, List.getElem_cons_zero, Act.put, List.setIfInBounds_toArray, List.set_cons_zero, List.set_cons_succ])
      have hl9 := HLN.out
      refine held_stepS (i := 9) (by kernel_rfl) rfl (by rfl) ?_
      refine wp_append_own _ _ _ 40 rfl w.heap.size 46 i0 _ 2 32 Tryd.underlying40 hi hz0 hz1 hz2 rfl (by decide) v L.length (mbC L) rfl G5.out.own ⟨w4.heap.size, 0, none⟩ 1 1 [.string pa, .string pd] rfl rfl (cell_twoG rfl) (mb_two _ _) (by unfold maxLen; omega) (by omega) (by rw [World.size_alloc]; omega) ?_
      intro v' w9 hown' hgrow _
      have G9 : Hid (GW w w9 v' (L ++ [⟨pa, pd⟩])) := ⟨by have h := hown'; rw [mbC_snoc L ⟨pa, pd⟩] at h; simpa only [List.length_append, List.length_singleton, List.length_cons, List.length_nil] using h, G5.out.bel.grown hgrow (by rw [World.size_alloc]; omega) (fun k hk => (G5.out.own.lt k hk).1)⟩
      have hS9 : S w9 := by
        have h5 := hS5
        rw [HSS.out] at h5 ⊢
        exact (hgrow.block _ (Array.getElem?_eq_some_iff.1 h5).1 (fun e => by have := HNV.out nb e.symm; omega)).trans h5
      clear hown' hgrow G5 hS5
      refine ⟨hS9, ?_⟩
      (try simp only [List.getElem_toArray, List.getElem_cons_succ, List.getElem_cons_zero, Act.put, List.setIfInBounds_toArray, List.set_cons_zero, List.set_cons_succ])
      refine wpAnyH_take (i := 10) (v := v') rfl (by kernel_rfl) (by kernel_rfl) (by kernel_rfl) (fun _ _ _ h => h) (Or.inl ⟨by rfl, by intro w' hS'; go_simp <;> (first | omega | (rw [IntKind.wrap_i64]; omega) | (rw [IntKind.wrap_u64]; omega) | rfl)⟩) hS9 ?_
      (try simp only [List.getElem_toArray, List.getElem_cons_succ, List.getElem_cons_zero, Act.put, List.setIfInBounds_toArray, List.set_cons_zero, List.set_cons_succ])
      refine wpAnyH_done (by kernel_rfl) ?_ _
      clear hS4 hS9 HX HSB HSS hl9 hsz4
      go_wp2_with fail
      go_roundw
      case rel => exact ⟨i + 1, _, by have := HLT.out; omega, by go_num, rfl, by rw [HPF.out]; exact G9⟩
      case measure => simp [intMb]; have := HLT.out; omega
    · obtain rfl : i = n := by omega
      by_cases h0 : 0 < i
      · have hl := pf_len F i
        have HSC := hidT (HSO.out v (pf F i) wr (by rw [hl]; exact HD.out.1) (fun p hp => by
          obtain ⟨j, hj, rfl⟩ := (pf_mem F p i).1 hp
          have := (HN.out j hj).1
          omega) (HMX.out _ GS.out.bel) (by omega) GS.out.own)
        have HBW := hidT GS.out.bel
        have HU := hidT HD.out.2.2.2
        obtain ⟨va, vc, hv⟩ := own2_slice GS.out.own
        subst hv
        rw [hl] at HSC ⊢
        clear hl GS h0
        go_wp2_with fail
        refine HSC.out.mono ?_
        rintro e w7 ⟨rfl, ⟨L', hp, hs, ho⟩, hb7⟩
        have HE : Hid (L' = grL F i) := by
          show _ = _
          rw [HGL.out]
          exact (grP_of HU.out hp hs).one (gL_grP HU.out)
        have HO7 := hidT ho
        have HB7 := hidT (hb7 _ _ (Nat.le_refl _) HBW.out)
        have HLE : Hid ((grL F i).length = i) := by show _ = _; rw [HGL.out, gL_len]
        clear hp hs ho hb7 HSC
        go_wp2_with fail
        go_ret
        exact ⟨⟨_, rfl, by rw [HLE.out, ← HE.out]; exact HO7.out⟩, HB7.out⟩
      · obtain rfl : i = 0 := by omega
        have HSC : Hid (∀ (p : Option Addr) (k : Nat) (w1 : World), Calls Tryd.prog 63 #[.slice p 0 k, .func (.func 64) #[] #[]] w1 fun e w' => e = .returned (.tuple #[]) ∧ w' = w1) := fun p k w1 => AnyF.slices_SortFunc_none Tryd.sortMb p k _ w1
        have HLE : Hid (grL F 0 = []) := HGL.out
        obtain ⟨va, vc, hv⟩ := own2_slice GS.out.own
        subst hv
        have HOW : Hid (wr.ownsRow w.heap.size 46 2 (.slice va 0 vc) 0 [] ∧ Below w.heap.size w wr) := ⟨GS.out.own, GS.out.bel⟩
        rw [show (pf F 0).length = 0 from rfl]
        clear GS h0
        go_wp2_with fail
        refine (HSC.out _ _ _).mono ?_
        rintro e w7 ⟨rfl, hw7⟩
        subst w7
        go_wp2_with fail
        go_ret
        exact ⟨⟨_, rfl, by rw [HLE.out]; exact HOW.out.1⟩, HOW.out.2⟩
set_option maxRecDepth 100000 in
theorem grp_no (a : Option Addr) (c n : Nat) (F : Nat → MbI) (w : World) (hF : MbLe F n) (hd : ¬ mbR F n) (h : MbArg w (.slice a n c) n F) :
    Calls Tryd.prog 22 #[.slice a n c] w fun e w' => (∃ v, e = .returned v ∧ w'.ownsRow w.heap.size 46 2 v (grL F n).length (mbC (grL F n))) ∧ Below w.heap.size w w' := by
  have HOK : Hid (Calls Tryd.prog 62 #[.slice a n c] w fun e w' => e = .returned (.bool false) ∧ Below w.heap.size w w') := by
    have := mbs_any _ n F w hF h
    rw [mbB_no hd] at this
    exact this
  have HGL : Hid (grL F n = []) := grL_no hd
  clear hF hd h
  go_enter Tryd.func22, Tryd.ntmps22
  go_wp2_with fail
  refine HOK.out.mono ?_
  rintro e w1 ⟨rfl, hb1⟩
  go_wp2_with fail
  go_ret
  exact ⟨⟨_, rfl, by rw [HGL.out]; exact World.ownsRow_nil _ _ _ _⟩, hb1⟩
end Go.Proofs.YtfegoldjejlcaaaDoor
