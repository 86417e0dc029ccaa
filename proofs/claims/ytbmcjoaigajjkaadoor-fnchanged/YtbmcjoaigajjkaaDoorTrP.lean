/-
  A tree that is planted, node by node: the code's.
-/
import Derived.Test.YtbmcjoaigajjkaaDoorTrL
import Derived.Deep.MidRow
import Derived.Laws.Cover1
namespace Go.Proofs.YtbmcjoaigajjkaaDoor
open Go.RowKit
set_option linter.unusedVariables false
set_option linter.unusedSimpArgs false
def PlP (w : World) (F : Nat → NdI) (n : Nat) (e : Ending) (w' : World) : Prop := ((ndR F n ∧ ∃ bl vs, e = .returned (.tuple #[.pointer (some ⟨bl 0, 0, none⟩), .bool true]) ∧ TR w' w.heap.size F n bl vs) ∨ (¬ ndR F n ∧ e = .returned (.tuple #[.pointer none, .bool false]))) ∧ Below w.heap.size w w'
theorem PlP.no {w w' : World} {F : Nat → NdI} {n : Nat} (h : ¬ ndR F n) (hb : Below w.heap.size w w') : PlP w F n (.returned (.tuple #[.pointer none, .bool false])) w' := ⟨Or.inr ⟨h, rfl⟩, hb⟩
theorem Tryd.infBr : (Tryd.prog.info? 57).map (fun i => (i.zero, i.size, i.bytes)) = some (some (.pointer none), 1, 8) := by kernel_rfl
open Classical in
theorem ndOkB_true {p : NdI} (h : ndOkB p = true) : ndOk p := by unfold ndOkB at h; exact of_decide_eq_true h
structure NdLe (F : Nat → NdI) (n : Nat) : Prop where
  len : n ≤ 1048576
  tot : n + ndTot F n ≤ 1048576
theorem NdLe.s {F : Nat → NdI} {n : Nat} (h : NdLe F n) {i : Nat} (hi : i < n) : (F i).p.size ≤ 1048576 ∧ (F i).d.size ≤ 1048576 := by
  have h1 := ndTot_one F hi
  have h2 := h.tot
  omega
theorem cellPt {W : World} {x : Value} {t : TypeId} {k : Nat} (hk : W.heap.size = k) : ∀ j u, [x][j]? = some u → (W.alloc (.cells #[x] t)).cell? ((⟨k, 0, none⟩ : Addr).add j) = some u := by
  subst hk
  intro j u hj
  match j, hj with
  | 0, hj =>
    have ea : (⟨W.heap.size, 0, none⟩ : Addr).add 0 = ⟨W.heap.size, 0, none⟩ := by simp [Addr.add]
    rw [ea, cell_of_row _ _ 0 _ _ _ (heap_alloc_new W (.cells #[x] t))]
    simpa using hj
  | j + 1, hj => simp at hj
theorem onePt {b : Nat} : ∀ u ∈ [Value.pointer (some ⟨b, 0, none⟩)], u.oneCell' = true := by
  intro u hu
  simp only [List.mem_cons, List.not_mem_nil, or_false] at hu
  subst hu
  rfl
theorem lastD_at {P : List ByteArray} {la : Nat} (h : la = P.length - 1) (h1 : la < P.length) : P.getLastD ⟨#[]⟩ = P[la] := by
  subst h
  rw [List.getLastD_eq_getLast?, List.getLast?_eq_getElem?, List.getElem?_eq_getElem h1]
  rfl
theorem own1_sl {w : World} {B n : Nat} {e : TypeId} {v : Value} {xs : List Value} (h : w.ownsRow B e 1 v n xs) : ∃ a c, v = .slice a n c := by
  rcases own1_form h with ⟨h1, h2⟩ | ⟨g, c, h1, _⟩
  · exact ⟨_, _, by rw [h1, h2]⟩
  · exact ⟨_, _, h1⟩
theorem rangeBox {w : World} {b : Nat} {cs : List Value} {t : TypeId} (h : w.heap[b]? = some (.cells cs.toArray t (0, 0))) : w.rangeAt b 0 cs := fun j v hv => by
  rw [cell_of_row _ _ _ _ _ _ h]
  simpa using hv
set_option maxRecDepth 100000 in
set_option maxHeartbeats 8000000 in
theorem planted_loop (a : Option Addr) (c n : Nat) (F : Nat → NdI) (w : World) (hn : n ≤ 40) (hF : NdLe F n) (hm : MxL w) (hr : 0 < n → ∃ g, a = some ⟨g, 0, none⟩ ∧ NdRow w g n F) :
    Calls Tryd.prog 22 #[.slice a n c] w fun e w' => PlP w F n e w' := by
  have hnI : ¬ (40 : Int) < (n : Int) := by omega
  have hn40 : (n : Int) ≤ 40 := by omega
  have HF := hidT hF
  have HM : Hid (∀ w', Below w.heap.size w w' → MxL w') := fun w' h => hm.on h
  have HR : Hid (0 < n → ∃ g, a = some ⟨g, 0, none⟩ ∧ NdRow w g n F) := hr
  have HOK : Hid (∀ (p : NdI) w, p.p.size ≤ 1048576 → MxL w → Calls Tryd.prog 52 #[ndV p.p p.r p.m p.d] w fun e w' => e = .returned (.bool (ndOkB p)) ∧ Below w.heap.size w w') := fun p w h1 h2 => nodeOk_any p w h1 h2
  have HNM : Hid (∀ (s : ByteArray) w, s.size ≤ 1048576 → MxL w → Calls Tryd.prog 24 #[.string s] w fun e w' => (∃ g c, e = .returned (.slice (some ⟨g, 0, none⟩) (pcsB s).length c) ∧ (pcsB s).length ≤ c ∧ w.heap.size ≤ g ∧ StRow w' g (pcsB s)) ∧ Below w.heap.size w w') := fun s w h1 h2 => namesC_any s w (by omega) h2
  have HFD : Hid (∀ (i : Nat) (bl : Nat → Nat) (vs : Nat → Value) (g c : Nat) (P : List ByteArray) (w2 : World), i ≤ 40 → trV F i → TR w2 w.heap.size F i bl vs → StRow w2 g P → P.length ≤ 7 → Calls Tryd.prog 23 #[.pointer (some ⟨bl 0, 0, none⟩), .slice (some ⟨g, 0, none⟩) P.length c] w2 fun e w' => e = .returned (ptO bl (bF F i P)) ∧ Below w2.heap.size w2 w') := fun i bl vs g c P w2 h1 h2 h3 h4 h5 => find_any F i bl vs w.heap.size g c P w2 h1 h2 h3 h4 h5
  unfold ndV at HOK
  have HN40 := hidT hn
  obtain ⟨i0, hI0, hz0, hz1, hz2⟩ := info_parts Tryd.infBr
  have HST : Hid (TR (w.alloc (.cells #[.string ⟨#[]⟩, .string ⟨#[]⟩, .bool true, .int .i64 0, .string ⟨#[]⟩, .slice none 0 0] 64)) w.heap.size F 0 (fun _ => w.heap.size) (fun _ => .slice none 0 0)) := by
    refine ⟨fun k hk => ?_, fun k hk => World.ownsRow_nil _ _ _ _, fun k l hk hl _ => by omega, fun k l _ _ _ b hb => by cases hb⟩
    obtain rfl : k = 0 := by omega
    exact ⟨Nat.le_refl _, heap_alloc_new w _⟩
  have HB0 : Hid (Below w.heap.size w (w.alloc (.cells #[.string ⟨#[]⟩, .string ⟨#[]⟩, .bool true, .int .i64 0, .string ⟨#[]⟩, .slice none 0 0] 64))) := (Below.refl _ _).alloc (Nat.le_refl _) _
  clear hr hF hm
  go_enter Tryd.func22, Tryd.ntmps22
  go_wp2_with fail
  generalize w.alloc (.cells #[.string ⟨#[]⟩, .string ⟨#[]⟩, .bool true, .int .i64 0, .string ⟨#[]⟩, .slice none 0 0] 64) = W1 at HST HB0 ⊢
  go_loopw [18] (fun x wr => ∃ (i : Nat) (bl : Nat → Nat) (vs : Nat → Value), i ≤ n ∧ x = .int .i64 (i : Int) ∧ Hid (bl 0 = w.heap.size) ∧ Hid (trV F i) ∧ Hid (TR wr w.heap.size F i bl vs) ∧ Hid (Below w.heap.size w wr)) (fun x _ => n - (trI x).toNat)
  case atStart => exact ⟨0, fun _ => w.heap.size, fun _ => .slice none 0 0, by omega, rfl, rfl, fun j hj => absurd hj (by omega), HST, HB0⟩
  case round =>
    clear HST HB0
    obtain ⟨i, bl, vs, hi, rfl, HBL, HV, HT, HB⟩ := hrel
    by_cases hlt : i < n
    · have hltI : (i : Int) < (n : Int) := by omega
      obtain ⟨g, rfl, hrow⟩ := HR.out (by omega)
      have HROW : Hid (∀ w', Below w.heap.size w w' → NdRow w' g n F) := fun w' hb => hrow.below hb hrow.lt
      have hrow2 := HROW.out wr HB.out
      obtain ⟨q, hq⟩ : ∃ q, q = 4 * i := ⟨_, rfl⟩
      have x0 := hrow2.c0 i hlt
      have x1 := hrow2.c1 i hlt
      have x2 := hrow2.c2 i hlt
      have x3 := hrow2.c3 i hlt
      rw [← hq] at x0 x1 x2 x3
      have hiq : i * 4 = q := by omega
      have HLT : Hid (i < n ∧ i ≤ 40) := ⟨hlt, by omega⟩
      have hi40 : i ≤ 40 := by omega
      obtain ⟨pp, hpp⟩ : ∃ pp, pp = (F i).p := ⟨_, rfl⟩
      obtain ⟨pr, hpr⟩ : ∃ pr, pr = (F i).r := ⟨_, rfl⟩
      obtain ⟨pm, hpm⟩ : ∃ pm, pm = (F i).m := ⟨_, rfl⟩
      obtain ⟨pd, hpd⟩ : ∃ pd, pd = (F i).d := ⟨_, rfl⟩
      rw [← hpp] at x0
      rw [← hpr] at x1
      rw [← hpm] at x2
      rw [← hpd] at x3
      have HPP : Hid (pp = (F i).p ∧ pr = (F i).r ∧ pm = (F i).m ∧ pd = (F i).d) := ⟨hpp, hpr, hpm, hpd⟩
      have HPS : Hid (pp.size ≤ 1048576) := by rw [hpp]; exact (HF.out.s hlt).1
      obtain ⟨ob, hob⟩ : ∃ ob, ob = ndOkB (F i) := ⟨_, rfl⟩
      have HCALL : Hid (∀ w, MxL w → Calls Tryd.prog 52 #[.agg #[.string pp, .bool pr, .int .i64 pm, .string pd]] w fun e w' => e = .returned (.bool ob) ∧ Below w.heap.size w w') := fun w2 h2 => by
        have h := HOK.out (F i) w2 (by rw [← hpp]; exact HPS.out) h2
        rw [← hpp, ← hpr, ← hpm, ← hpd, ← hob] at h
        exact h
      have HOB := hidT hob
      have hbA := HB.out.alloc HB.out.size (.cells #[.string pp, .bool pr, .int .i64 pm, .string pd] 32)
      have HBA := hidT hbA
      have HBOX : Hid ((wr.alloc (.cells #[.string pp, .bool pr, .int .i64 pm, .string pd] 32)).heap[wr.heap.size]? = some (.cells #[.string pp, .bool pr, .int .i64 pm, .string pd] 32 (0, 0))) := heap_alloc_new wr _
      have HTA : Hid (TR (wr.alloc (.cells #[.string pp, .bool pr, .int .i64 pm, .string pd] 32)) w.heap.size F i bl vs) := HT.out.below ((Below.refl _ _).alloc (Nat.le_refl _) _)
      have HNB : Hid (w.heap.size ≤ wr.heap.size) := HB.out.size
      have HLO0 : Hid (∀ k, k ≤ i → bl k < wr.heap.size ∧ ∀ b, (vs k).ownBlock = some b → b < wr.heap.size) := fun k hk => ⟨HT.out.lt hk, fun b hb => ((HT.out.row k hk).lt b hb).2⟩
      have HNB0 : Hid (wr.heap.size < (wr.alloc (.cells #[.string pp, .bool pr, .int .i64 pm, .string pd] 32)).heap.size) := by show _ < _; simp
      clear hrow hrow2 hq hpp hpr hpm hpd hob hbA HB HT
      go_wp2_with fail
      generalize wr.alloc (.cells #[.string pp, .bool pr, .int .i64 pm, .string pd] 32) = wA at HBA HBOX HTA HNB0 ⊢
      generalize wr.heap.size = NB at HBOX HNB HLO0 HNB0 ⊢
      cases ob with
      | false =>
        have HNO : Hid (¬ ndR F n) := fun h => by
          have h2 := ndOkB_yes (h.2 i HLT.out.1).1
          rw [← HOB.out] at h2
          cases h2
        obtain ⟨S, hSS⟩ : ∃ S : World → Prop, S = fun w' => Below w.heap.size w w' ∧ w'.heap[NB]? = some (.cells #[.string pp, .bool pr, .int .i64 pm, .string pd] 32 (0, 0)) := ⟨_, rfl⟩
        have HSS := hidT hSS
        have hSd : S wA.drew := by rw [hSS]; exact ⟨HBA.out.drew, HBOX.out⟩
        have HRG : Hid (∀ w', S w' → w'.rangeAt NB 0 [.string pp, .bool pr, .int .i64 pm, .string pd]) := fun w' h => by rw [HSS.out] at h; exact rangeBox h.2
        have HX0 : Hid (∀ w', S w' → w'.cell? ⟨NB, 0, none⟩ = some (.string pp)) := fun w' h => by rw [HSS.out] at h; exact cell_of_row _ _ 0 _ _ _ h.2
        clear hSS
        refine wp_region_held (S := S) (by kernel_rfl) ?_
        change wpAnyH _ _ _ _ _ _ _ _ (World.drew _)
        refine wpAnyH_take (i := 0) (v := .agg #[.string pp, .bool pr, .int .i64 pm, .string pd]) rfl (by kernel_rfl) (by kernel_rfl) (by kernel_rfl) (fun _ _ _ h => h) (yieldsIf_load_mid (by rfl) 32 (.tmp 6) rfl NB 0 rfl [.string pp, .bool pr, .int .i64 pm, .string pd] _ HRG.out Tryd.underlying32 rfl (by kernel_rfl)) hSd ?_
        (try simp only [List.getElem_toArray, List.getElem_cons_succ, List.getElem_cons_zero, Act.put, List.setIfInBounds_toArray, List.set_cons_zero, List.set_cons_succ])
        refine held_stepS (i := 1) (by kernel_rfl) rfl (by rfl) ?_
        go_simp
        refine (HCALL.out _ (HM.out _ HBA.out.drew)).mono ?_
        rintro e w3 ⟨rfl, hb3⟩
        have HB3 := hidT (blNd HBA.out.drew hb3 HBA.out.size)
        have HBX3 : Hid (w3.heap[NB]? = some (.cells #[.string pp, .bool pr, .int .i64 pm, .string pd] 32 (0, 0))) := (hb3.block _ (Array.getElem?_eq_some_iff.1 HBOX.out).1).trans HBOX.out
        have HT3 := hidT (HTA.out.keep (fun j hj => hb3.block j hj))
        have hS3 : S w3 := by rw [HSS.out]; exact ⟨HB3.out, HBX3.out⟩
        clear hb3
        refine ⟨hS3, ?_⟩
        (try simp only [List.getElem_toArray, List.getElem_cons_succ, List.getElem_cons_zero, Act.put, List.setIfInBounds_toArray, List.set_cons_zero, List.set_cons_succ])
        refine wpAnyH_take (i := 2) (v := .bool true) rfl (by kernel_rfl) (by kernel_rfl) (by kernel_rfl) (fun _ _ _ h => h) (Or.inl ⟨by rfl, by intro w' hS'; go_simp <;> (first | omega | (rw [IntKind.wrap_i64]; omega) | (rw [IntKind.wrap_u64]; omega) | (rw [IntKind.wrap_u32]; omega) | (rw [Int.tmod_eq_emod_of_nonneg (by omega)]) | rfl)⟩) hS3 ?_
        (try simp only [List.getElem_toArray, List.getElem_cons_succ, List.getElem_cons_zero, Act.put, List.setIfInBounds_toArray, List.set_cons_zero, List.set_cons_succ])
        refine wpAnyH_take (i := 3) (v := .bool true) rfl (by kernel_rfl) (by kernel_rfl) (by kernel_rfl) (fun _ _ _ h => h) (Or.inl ⟨by rfl, by intro w' hS'; go_simp <;> (first | omega | (rw [IntKind.wrap_i64]; omega) | (rw [IntKind.wrap_u64]; omega) | (rw [IntKind.wrap_u32]; omega) | (rw [Int.tmod_eq_emod_of_nonneg (by omega)]) | rfl)⟩) hS3 ?_
        (try simp only [List.getElem_toArray, List.getElem_cons_succ, List.getElem_cons_zero, Act.put, List.setIfInBounds_toArray, List.set_cons_zero, List.set_cons_succ])
        refine wpAnyH_take (i := 4) (v := undef) rfl (by kernel_rfl) (by kernel_rfl) (by kernel_rfl) (fun _ _ _ h => h) (Or.inr ⟨by rfl, rfl⟩) hS3 ?_
        (try simp only [List.getElem_toArray, List.getElem_cons_succ, List.getElem_cons_zero, Act.put, List.setIfInBounds_toArray, List.set_cons_zero, List.set_cons_succ])
        refine wpAnyH_take (i := 5) (v := undef) rfl (by kernel_rfl) (by kernel_rfl) (by kernel_rfl) (fun _ _ _ h => h) (Or.inr ⟨by rfl, rfl⟩) hS3 ?_
        (try simp only [List.getElem_toArray, List.getElem_cons_succ, List.getElem_cons_zero, Act.put, List.setIfInBounds_toArray, List.set_cons_zero, List.set_cons_succ])
        refine wpAnyH_take (i := 6) (v := undef) rfl (by kernel_rfl) (by kernel_rfl) (by kernel_rfl) (fun _ _ _ h => h) (Or.inr ⟨by rfl, rfl⟩) hS3 ?_
        (try simp only [List.getElem_toArray, List.getElem_cons_succ, List.getElem_cons_zero, Act.put, List.setIfInBounds_toArray, List.set_cons_zero, List.set_cons_succ])
        refine wpAnyH_take (i := 7) (v := undef) rfl (by kernel_rfl) (by kernel_rfl) (by kernel_rfl) (fun _ _ _ h => h) (Or.inr ⟨by rfl, rfl⟩) hS3 ?_
        (try simp only [List.getElem_toArray, List.getElem_cons_succ, List.getElem_cons_zero, Act.put, List.setIfInBounds_toArray, List.set_cons_zero, List.set_cons_succ])
        refine wpAnyH_take (i := 8) (v := undef) rfl (by kernel_rfl) (by kernel_rfl) (by kernel_rfl) (fun _ _ _ h => h) (Or.inr ⟨by rfl, rfl⟩) hS3 ?_
        (try simp only [List.getElem_toArray, List.getElem_cons_succ, List.getElem_cons_zero, Act.put, List.setIfInBounds_toArray, List.set_cons_zero, List.set_cons_succ])
        refine wpAnyH_take (i := 9) (v := undef) rfl (by kernel_rfl) (by kernel_rfl) (by kernel_rfl) (fun _ _ _ h => h) (Or.inr ⟨by rfl, rfl⟩) hS3 ?_
        (try simp only [List.getElem_toArray, List.getElem_cons_succ, List.getElem_cons_zero, Act.put, List.setIfInBounds_toArray, List.set_cons_zero, List.set_cons_succ])
        refine wpAnyH_take (i := 10) (v := undef) rfl (by kernel_rfl) (by kernel_rfl) (by kernel_rfl) (fun _ _ _ h => h) (Or.inr ⟨by rfl, rfl⟩) hS3 ?_
        (try simp only [List.getElem_toArray, List.getElem_cons_succ, List.getElem_cons_zero, Act.put, List.setIfInBounds_toArray, List.set_cons_zero, List.set_cons_succ])
        refine wpAnyH_take (i := 11) (v := undef) rfl (by kernel_rfl) (by kernel_rfl) (by kernel_rfl) (fun _ _ _ h => h) (Or.inr ⟨by rfl, rfl⟩) hS3 ?_
        (try simp only [List.getElem_toArray, List.getElem_cons_succ, List.getElem_cons_zero, Act.put, List.setIfInBounds_toArray, List.set_cons_zero, List.set_cons_succ])
        refine wpAnyH_take (i := 12) (v := undef) rfl (by kernel_rfl) (by kernel_rfl) (by kernel_rfl) (fun _ _ _ h => h) (Or.inr ⟨by rfl, rfl⟩) hS3 ?_
        (try simp only [List.getElem_toArray, List.getElem_cons_succ, List.getElem_cons_zero, Act.put, List.setIfInBounds_toArray, List.set_cons_zero, List.set_cons_succ])
        refine wpAnyH_take (i := 13) (v := undef) rfl (by kernel_rfl) (by kernel_rfl) (by kernel_rfl) (fun _ _ _ h => h) (Or.inr ⟨by rfl, rfl⟩) hS3 ?_
        (try simp only [List.getElem_toArray, List.getElem_cons_succ, List.getElem_cons_zero, Act.put, List.setIfInBounds_toArray, List.set_cons_zero, List.set_cons_succ])
        refine wpAnyH_take (i := 14) (v := undef) rfl (by kernel_rfl) (by kernel_rfl) (by kernel_rfl) (fun _ _ _ h => h) (Or.inr ⟨by rfl, rfl⟩) hS3 ?_
        (try simp only [List.getElem_toArray, List.getElem_cons_succ, List.getElem_cons_zero, Act.put, List.setIfInBounds_toArray, List.set_cons_zero, List.set_cons_succ])
        refine wpAnyH_take (i := 15) (v := undef) rfl (by kernel_rfl) (by kernel_rfl) (by kernel_rfl) (fun _ _ _ h => h) (Or.inr ⟨by rfl, rfl⟩) hS3 ?_
        (try simp only [List.getElem_toArray, List.getElem_cons_succ, List.getElem_cons_zero, Act.put, List.setIfInBounds_toArray, List.set_cons_zero, List.set_cons_succ])
        refine wpAnyH_take (i := 16) (v := undef) rfl (by kernel_rfl) (by kernel_rfl) (by kernel_rfl) (fun _ _ _ h => h) (Or.inr ⟨by rfl, rfl⟩) hS3 ?_
        (try simp only [List.getElem_toArray, List.getElem_cons_succ, List.getElem_cons_zero, Act.put, List.setIfInBounds_toArray, List.set_cons_zero, List.set_cons_succ])
        refine wpAnyH_take (i := 17) (v := .bool true) rfl (by kernel_rfl) (by kernel_rfl) (by kernel_rfl) (fun _ _ _ h => h) (Or.inl ⟨by rfl, by intro w' hS'; go_simp <;> (first | omega | (rw [IntKind.wrap_i64]; omega) | (rw [IntKind.wrap_u64]; omega) | (rw [IntKind.wrap_u32]; omega) | (rw [Int.tmod_eq_emod_of_nonneg (by omega)]) | rfl)⟩) hS3 ?_
        (try simp only [List.getElem_toArray, List.getElem_cons_succ, List.getElem_cons_zero, Act.put, List.setIfInBounds_toArray, List.set_cons_zero, List.set_cons_succ])
        refine wpAnyH_done (by kernel_rfl) ?_ _
        go_wp2_with fail
        go_ret2
        exact PlP.no HNO.out HB3.out
      | true =>
        have hokk : ndOk (F i) := ndOkB_true HOB.out.symm
        have HOKK := hidT hokk
        clear hokk
        by_cases hi0 : 0 < i
        · have hi0I : (0 : Int) < (i : Int) := by omega
          obtain ⟨ip, hip⟩ : ∃ ip, ip = i - 1 := ⟨_, rfl⟩
          have hw1 : IntKind.i64.wrap ((i : Int) - 1) = ((ip : Nat) : Int) := by rw [IntKind.wrap_i64]; omega
          obtain ⟨qp, hqp⟩ : ∃ qp, qp = 4 * (i - 1) := ⟨_, rfl⟩
          have hipq : ip * 4 = qp := by omega
          have hipn : (ip : Int) < (n : Int) := by omega
          obtain ⟨pv, hpv⟩ : ∃ pv, pv = (F (i - 1)).p := ⟨_, rfl⟩
          have HPV : Hid (qp = 4 * (i - 1) ∧ pv = (F (i - 1)).p) := ⟨hqp, hpv⟩
          clear hqp hpv hip
          by_cases hri : Op.bytesLess pv.toList pp.toList = true
          · have hle1 : Op.bytesLess pp.toList pv.toList = false := by
              cases hc : Op.bytesLess pp.toList pv.toList with
              | false => rfl
              | true => have := blt_trans hri hc; rw [blt_irr] at this; cases this
            have hle2 : (pp.toList == pv.toList) = false := beq_eq_false_iff_ne.2 fun e => by rw [e, blt_irr] at hri; cases hri
            have HRI : Hid (ndRise F i) := fun _ => by rw [← HPP.out.1, ← HPV.out.2]; exact hri
            clear hri
            obtain ⟨S, hSS⟩ : ∃ S : World → Prop, S = fun w' => Below w.heap.size w w' ∧ w'.heap[NB]? = some (.cells #[.string pp, .bool pr, .int .i64 pm, .string pd] 32 (0, 0)) := ⟨_, rfl⟩
            have HSS := hidT hSS
            have hSd : S wA.drew := by rw [hSS]; exact ⟨HBA.out.drew, HBOX.out⟩
            have HRG : Hid (∀ w', S w' → w'.rangeAt NB 0 [.string pp, .bool pr, .int .i64 pm, .string pd]) := fun w' h => by rw [HSS.out] at h; exact rangeBox h.2
            have HX0 : Hid (∀ w', S w' → w'.cell? ⟨NB, 0, none⟩ = some (.string pp)) := fun w' h => by rw [HSS.out] at h; exact cell_of_row _ _ 0 _ _ _ h.2
            have HXP : Hid (∀ w', S w' → w'.cell? ⟨g, qp, none⟩ = some (.string pv)) := fun w' h => by rw [HSS.out] at h; have h2 := (HROW.out w' h.1).c0 (i - 1) (by have := HLT.out; omega); rw [← HPV.out.1, ← HPV.out.2] at h2; exact h2
            clear hSS
            refine wp_region_held (S := S) (by kernel_rfl) ?_
            change wpAnyH _ _ _ _ _ _ _ _ (World.drew _)
            refine wpAnyH_take (i := 0) (v := .agg #[.string pp, .bool pr, .int .i64 pm, .string pd]) rfl (by kernel_rfl) (by kernel_rfl) (by kernel_rfl) (fun _ _ _ h => h) (yieldsIf_load_mid (by rfl) 32 (.tmp 6) rfl NB 0 rfl [.string pp, .bool pr, .int .i64 pm, .string pd] _ HRG.out Tryd.underlying32 rfl (by kernel_rfl)) hSd ?_
            (try simp only [List.getElem_toArray, List.getElem_cons_succ, List.getElem_cons_zero, Act.put, List.setIfInBounds_toArray, List.set_cons_zero, List.set_cons_succ])
            refine held_stepS (i := 1) (by kernel_rfl) rfl (by rfl) ?_
            go_simp
            refine (HCALL.out _ (HM.out _ HBA.out.drew)).mono ?_
            rintro e w3 ⟨rfl, hb3⟩
            have HB3 := hidT (blNd HBA.out.drew hb3 HBA.out.size)
            have HBX3 : Hid (w3.heap[NB]? = some (.cells #[.string pp, .bool pr, .int .i64 pm, .string pd] 32 (0, 0))) := (hb3.block _ (Array.getElem?_eq_some_iff.1 HBOX.out).1).trans HBOX.out
            have HT3 := hidT (HTA.out.keep (fun j hj => hb3.block j hj))
            have hS3 : S w3 := by rw [HSS.out]; exact ⟨HB3.out, HBX3.out⟩
            clear hb3
            refine ⟨hS3, ?_⟩
            (try simp only [List.getElem_toArray, List.getElem_cons_succ, List.getElem_cons_zero, Act.put, List.setIfInBounds_toArray, List.set_cons_zero, List.set_cons_succ])
            refine wpAnyH_take (i := 2) (v := .bool false) rfl (by kernel_rfl) (by kernel_rfl) (by kernel_rfl) (fun _ _ _ h => h) (Or.inl ⟨by rfl, by intro w' hS'; go_simp <;> (first | omega | (rw [IntKind.wrap_i64]; omega) | (rw [IntKind.wrap_u64]; omega) | (rw [IntKind.wrap_u32]; omega) | (rw [Int.tmod_eq_emod_of_nonneg (by omega)]) | rfl)⟩) hS3 ?_
            (try simp only [List.getElem_toArray, List.getElem_cons_succ, List.getElem_cons_zero, Act.put, List.setIfInBounds_toArray, List.set_cons_zero, List.set_cons_succ])
            refine wpAnyH_take (i := 3) (v := .bool false) rfl (by kernel_rfl) (by kernel_rfl) (by kernel_rfl) (fun _ _ _ h => h) (Or.inl ⟨by rfl, by intro w' hS'; go_simp <;> (first | omega | (rw [IntKind.wrap_i64]; omega) | (rw [IntKind.wrap_u64]; omega) | (rw [IntKind.wrap_u32]; omega) | (rw [Int.tmod_eq_emod_of_nonneg (by omega)]) | rfl)⟩) hS3 ?_
            (try simp only [List.getElem_toArray, List.getElem_cons_succ, List.getElem_cons_zero, Act.put, List.setIfInBounds_toArray, List.set_cons_zero, List.set_cons_succ])
            refine wpAnyH_take (i := 4) (v := .int .i64 (i : Int)) rfl (by kernel_rfl) (by kernel_rfl) (by kernel_rfl) (fun _ _ _ h => h) (Or.inl ⟨by rfl, by intro w' hS'; go_simp <;> (first | omega | (rw [IntKind.wrap_i64]; omega) | (rw [IntKind.wrap_u64]; omega) | (rw [IntKind.wrap_u32]; omega) | (rw [Int.tmod_eq_emod_of_nonneg (by omega)]) | rfl)⟩) hS3 ?_
            (try simp only [List.getElem_toArray, List.getElem_cons_succ, List.getElem_cons_zero, Act.put, List.setIfInBounds_toArray, List.set_cons_zero, List.set_cons_succ])
            refine wpAnyH_take (i := 5) (v := .bool true) rfl (by kernel_rfl) (by kernel_rfl) (by kernel_rfl) (fun _ _ _ h => h) (Or.inl ⟨by rfl, by intro w' hS'; go_simp <;> (first | omega | (rw [IntKind.wrap_i64]; omega) | (rw [IntKind.wrap_u64]; omega) | (rw [IntKind.wrap_u32]; omega) | (rw [Int.tmod_eq_emod_of_nonneg (by omega)]) | rfl)⟩) hS3 ?_
            (try simp only [List.getElem_toArray, List.getElem_cons_succ, List.getElem_cons_zero, Act.put, List.setIfInBounds_toArray, List.set_cons_zero, List.set_cons_succ])
            refine wpAnyH_take (i := 6) (v := .bool true) rfl (by kernel_rfl) (by kernel_rfl) (by kernel_rfl) (fun _ _ _ h => h) (Or.inl ⟨by rfl, by intro w' hS'; go_simp <;> (first | omega | (rw [IntKind.wrap_i64]; omega) | (rw [IntKind.wrap_u64]; omega) | (rw [IntKind.wrap_u32]; omega) | (rw [Int.tmod_eq_emod_of_nonneg (by omega)]) | rfl)⟩) hS3 ?_
            (try simp only [List.getElem_toArray, List.getElem_cons_succ, List.getElem_cons_zero, Act.put, List.setIfInBounds_toArray, List.set_cons_zero, List.set_cons_succ])
            refine wpAnyH_take (i := 7) (v := .pointer (some ⟨NB, 0, none⟩)) rfl (by kernel_rfl) (by kernel_rfl) (by kernel_rfl) (fun _ _ _ h => h) (Or.inl ⟨by rfl, by intro w' hS'; go_simp <;> (first | omega | (rw [IntKind.wrap_i64]; omega) | (rw [IntKind.wrap_u64]; omega) | (rw [IntKind.wrap_u32]; omega) | (rw [Int.tmod_eq_emod_of_nonneg (by omega)]) | rfl)⟩) hS3 ?_
            (try simp only [List.getElem_toArray, List.getElem_cons_succ, List.getElem_cons_zero, Act.put, List.setIfInBounds_toArray, List.set_cons_zero, List.set_cons_succ])
            refine wpAnyH_take (i := 8) (v := .string pp) rfl (by kernel_rfl) (by kernel_rfl) (by kernel_rfl) (fun _ _ _ h => h) (Or.inl ⟨by rfl, by intro w' hS'; have hxx := HX0.out w' hS'; go_simp <;> (first | omega | (rw [IntKind.wrap_i64]; omega) | (rw [IntKind.wrap_u64]; omega) | (rw [IntKind.wrap_u32]; omega) | (rw [Int.tmod_eq_emod_of_nonneg (by omega)]) | rfl)⟩) hS3 ?_
            (try simp only [List.getElem_toArray, List.getElem_cons_succ, List.getElem_cons_zero, Act.put, List.setIfInBounds_toArray, List.set_cons_zero, List.set_cons_succ])
            refine wpAnyH_take (i := 9) (v := .slice (some ⟨g, 0, none⟩) n c) rfl (by kernel_rfl) (by kernel_rfl) (by kernel_rfl) (fun _ _ _ h => h) (Or.inl ⟨by rfl, by intro w' hS'; go_simp <;> (first | omega | (rw [IntKind.wrap_i64]; omega) | (rw [IntKind.wrap_u64]; omega) | (rw [IntKind.wrap_u32]; omega) | (rw [Int.tmod_eq_emod_of_nonneg (by omega)]) | rfl)⟩) hS3 ?_
            (try simp only [List.getElem_toArray, List.getElem_cons_succ, List.getElem_cons_zero, Act.put, List.setIfInBounds_toArray, List.set_cons_zero, List.set_cons_succ])
            refine wpAnyH_take (i := 10) (v := .int .i64 (i : Int)) rfl (by kernel_rfl) (by kernel_rfl) (by kernel_rfl) (fun _ _ _ h => h) (Or.inl ⟨by rfl, by intro w' hS'; go_simp <;> (first | omega | (rw [IntKind.wrap_i64]; omega) | (rw [IntKind.wrap_u64]; omega) | (rw [IntKind.wrap_u32]; omega) | (rw [Int.tmod_eq_emod_of_nonneg (by omega)]) | rfl)⟩) hS3 ?_
            (try simp only [List.getElem_toArray, List.getElem_cons_succ, List.getElem_cons_zero, Act.put, List.setIfInBounds_toArray, List.set_cons_zero, List.set_cons_succ])
            refine wpAnyH_take (i := 11) (v := .int .i64 ((ip : Nat) : Int)) rfl (by kernel_rfl) (by kernel_rfl) (by kernel_rfl) (fun _ _ _ h => h) (Or.inl ⟨by rfl, by intro w' hS'; go_simp <;> (first | omega | (rw [IntKind.wrap_i64]; omega) | (rw [IntKind.wrap_u64]; omega) | (rw [IntKind.wrap_u32]; omega) | (rw [Int.tmod_eq_emod_of_nonneg (by omega)]) | rfl)⟩) hS3 ?_
            (try simp only [List.getElem_toArray, List.getElem_cons_succ, List.getElem_cons_zero, Act.put, List.setIfInBounds_toArray, List.set_cons_zero, List.set_cons_succ])
            refine wpAnyH_take (i := 12) (v := .pointer (some ⟨g, qp, none⟩)) rfl (by kernel_rfl) (by kernel_rfl) (by kernel_rfl) (fun _ _ _ h => h) (Or.inl ⟨by rfl, by intro w' hS'; go_simp <;> (first | omega | (rw [IntKind.wrap_i64]; omega) | (rw [IntKind.wrap_u64]; omega) | (rw [IntKind.wrap_u32]; omega) | (rw [Int.tmod_eq_emod_of_nonneg (by omega)]) | rfl)⟩) hS3 ?_
            (try simp only [List.getElem_toArray, List.getElem_cons_succ, List.getElem_cons_zero, Act.put, List.setIfInBounds_toArray, List.set_cons_zero, List.set_cons_succ])
            refine wpAnyH_take (i := 13) (v := .pointer (some ⟨g, qp, none⟩)) rfl (by kernel_rfl) (by kernel_rfl) (by kernel_rfl) (fun _ _ _ h => h) (Or.inl ⟨by rfl, by intro w' hS'; go_simp <;> (first | omega | (rw [IntKind.wrap_i64]; omega) | (rw [IntKind.wrap_u64]; omega) | (rw [IntKind.wrap_u32]; omega) | (rw [Int.tmod_eq_emod_of_nonneg (by omega)]) | rfl)⟩) hS3 ?_
            (try simp only [List.getElem_toArray, List.getElem_cons_succ, List.getElem_cons_zero, Act.put, List.setIfInBounds_toArray, List.set_cons_zero, List.set_cons_succ])
            refine wpAnyH_take (i := 14) (v := .string pv) rfl (by kernel_rfl) (by kernel_rfl) (by kernel_rfl) (fun _ _ _ h => h) (Or.inl ⟨by rfl, by intro w' hS'; have hxx := HXP.out w' hS'; go_simp <;> (first | omega | (rw [IntKind.wrap_i64]; omega) | (rw [IntKind.wrap_u64]; omega) | (rw [IntKind.wrap_u32]; omega) | (rw [Int.tmod_eq_emod_of_nonneg (by omega)]) | rfl)⟩) hS3 ?_
            (try simp only [List.getElem_toArray, List.getElem_cons_succ, List.getElem_cons_zero, Act.put, List.setIfInBounds_toArray, List.set_cons_zero, List.set_cons_succ])
            refine wpAnyH_take (i := 15) (v := .bool false) rfl (by kernel_rfl) (by kernel_rfl) (by kernel_rfl) (fun _ _ _ h => h) (Or.inl ⟨by rfl, by intro w' hS'; go_simp <;> (first | omega | (rw [IntKind.wrap_i64]; omega) | (rw [IntKind.wrap_u64]; omega) | (rw [IntKind.wrap_u32]; omega) | (rw [Int.tmod_eq_emod_of_nonneg (by omega)]) | rfl | (rw [hle1, hle2]; rfl))⟩) hS3 ?_
            (try simp only [List.getElem_toArray, List.getElem_cons_succ, List.getElem_cons_zero, Act.put, List.setIfInBounds_toArray, List.set_cons_zero, List.set_cons_succ])
            refine wpAnyH_take (i := 16) (v := .bool false) rfl (by kernel_rfl) (by kernel_rfl) (by kernel_rfl) (fun _ _ _ h => h) (Or.inl ⟨by rfl, by intro w' hS'; go_simp <;> (first | omega | (rw [IntKind.wrap_i64]; omega) | (rw [IntKind.wrap_u64]; omega) | (rw [IntKind.wrap_u32]; omega) | (rw [Int.tmod_eq_emod_of_nonneg (by omega)]) | rfl)⟩) hS3 ?_
            (try simp only [List.getElem_toArray, List.getElem_cons_succ, List.getElem_cons_zero, Act.put, List.setIfInBounds_toArray, List.set_cons_zero, List.set_cons_succ])
            refine wpAnyH_take (i := 17) (v := .bool false) rfl (by kernel_rfl) (by kernel_rfl) (by kernel_rfl) (fun _ _ _ h => h) (Or.inl ⟨by rfl, by intro w' hS'; go_simp <;> (first | omega | (rw [IntKind.wrap_i64]; omega) | (rw [IntKind.wrap_u64]; omega) | (rw [IntKind.wrap_u32]; omega) | (rw [Int.tmod_eq_emod_of_nonneg (by omega)]) | rfl)⟩) hS3 ?_
            (try simp only [List.getElem_toArray, List.getElem_cons_succ, List.getElem_cons_zero, Act.put, List.setIfInBounds_toArray, List.set_cons_zero, List.set_cons_succ])
            refine wpAnyH_done (by kernel_rfl) ?_ _
            have b0 : w3.cell? ⟨NB, 0, none⟩ = some (.string pp) := cell_of_row _ _ 0 _ _ _ HBX3.out
            have HNB3 : Hid (NB < w3.heap.size) := (Array.getElem?_eq_some_iff.1 HBX3.out).1
            go_wp2_with fail
            refine (HNM.out _ _ HPS.out (HM.out _ HB3.out)).mono ?_
            rintro e w4 ⟨⟨g4, c4, rfl, hc4, hg4, hrow4⟩, hb4⟩
            clear b0
            have HB4 := hidT (blNd HB3.out hb4 HB3.out.size)
            have HBX4 : Hid (w4.heap[NB]? = some (.cells #[.string pp, .bool pr, .int .i64 pm, .string pd] 32 (0, 0))) := (hb4.block _ HNB3.out).trans HBX3.out
            have HT4 := hidT (HT3.out.below hb4)
            have hG4 : NB < g4 := Nat.lt_of_lt_of_le HNB3.out hg4
            have HG4 := hidT hG4
            have hpos := pcs_pos HOKK.out.1
            rw [← HPP.out.1] at hpos
            obtain ⟨P, hPe⟩ : ∃ P, P = pcsB pp := ⟨_, rfl⟩
            rw [← hPe] at hc4 hrow4 hpos ⊢
            obtain ⟨la, hla⟩ : ∃ la, la = P.length - 1 := ⟨_, rfl⟩
            have hwl : IntKind.i64.wrap ((P.length : Int) - 1) = (la : Int) := by rw [IntKind.wrap_i64]; omega
            have hlac : (la : Int) ≤ (c4 : Int) := by omega
            have hlaP : (la : Int) < (P.length : Int) := by omega
            have hPc : (P.length : Int) ≤ (c4 : Int) := by omega
            have hPD : P.dropLast.length = la := by rw [List.length_dropLast]; omega
            have HFX := hidT (HFD.out i bl vs g4 c4 P.dropLast w4 hi40 HV.out HT4.out hrow4.front (by omega))
            rw [hPD, HBL.out] at HFX
            have HPE : Hid (P = pcsB pp ∧ la = P.length - 1 ∧ 1 ≤ P.length) := ⟨hPe, hla, hpos.1⟩
            have HROW4 := hidT hrow4
            clear hrow4 hb4 hc4 hg4 hPe hla hpos hPD HB3 HBX3 HT3 hG4
            go_wp2_with fail
            refine (HFX.out).mono ?_
            rintro e w5 ⟨rfl, hb5⟩
            have HB5 := hidT (blNd HB4.out hb5 HB4.out.size)
            have HBX5 : Hid (w5.heap[NB]? = some (.cells #[.string pp, .bool pr, .int .i64 pm, .string pd] 32 (0, 0))) := (hb5.block _ (Array.getElem?_eq_some_iff.1 HBX4.out).1).trans HBX4.out
            have HT5 := hidT (HT4.out.below hb5)
            have HROW5 := hidT (HROW4.out.below hb5 HROW4.out.lt)
            clear hb5 HB4 HBX4 HT4 HROW4 HFX
            cases hf : bF F i P.dropLast with
            | none =>
              have HNO : Hid (¬ ndR F n) := fun h => by
                obtain ⟨k, hk, _⟩ := bF_must (trV_le h.2 (show i + 1 ≤ n by have := HLT.out; omega))
                rw [← HPP.out.1, ← HPE.out.1, hf] at hk
                cases hk
              clear hf
              unfold ptO
              go_wp2_with fail
              go_ret2
              exact PlP.no HNO.out HB5.out
            | some k =>
              have hki := (bF_inv hf).1
              have c2 := (HT5.out.cells hki).2.2.1
              have HKI := hidT hki
              have HMU : Hid (ndR F n → (bN F k).r = true) := fun h => by
                obtain ⟨k2, hk, hr⟩ := bF_must (trV_le h.2 (show i + 1 ≤ n by have := HLT.out; omega))
                rw [← HPP.out.1, ← HPE.out.1, hf] at hk
                injection hk with hk
                rw [hk]; exact hr
              have HNX : Hid ((bN F k).r = true → trV F (i + 1) ∧ bU F i = k ∧ k ≤ i) := fun h => trV_next HV.out HOKK.out HRI.out (by rw [← HPP.out.1, ← HPE.out.1]; exact hf) h
              clear hf hki
              unfold ptO
              generalize (bN F k).r = kr at c2 HMU HNX
              cases kr with
              | false =>
                have HNO : Hid (¬ ndR F n) := fun h => by have := HMU.out h; cases this
                clear HMU HNX
                go_wp2_with fail
                go_ret2
                exact PlP.no HNO.out HB5.out
              | true =>
                have hnx := HNX.out rfl
                have HNX2 := hidT hnx
                clear HMU HNX hnx
                obtain ⟨ls, hls⟩ : ∃ ls, ls = bL F (i + 1) := ⟨_, rfl⟩
                have hlaP2 : la < P.length := by have := HPE.out; omega
                have hl0 : w5.cell? ⟨g4, la, none⟩ = some (.string ls) := by
                  have h1 := HROW5.out.c la hlaP2
                  have e2 : pcsB (F i).p = P := by rw [HPE.out.1, HPP.out.1]
                  have e3 : ls = P[la] := by
                    rw [hls]
                    show (pcsB (F i).p).getLastD ⟨#[]⟩ = _
                    rw [e2]
                    exact lastD_at HPE.out.2.1 hlaP2
                  rw [h1, e3]
                clear hlaP2
                have HBR : Hid (brV F (.slice none 0 0) (i + 1) = #[.string ls, .string pp, .bool pr, .int .i64 pm, .string pd, .slice none 0 0]) := by
                  show #[Value.string (bL F (i + 1)), .string (F i).p, .bool (F i).r, .int .i64 (F i).m, .string (F i).d, .slice none 0 0] = _
                  rw [← hls, ← HPP.out.1, ← HPP.out.2.1, ← HPP.out.2.2.1, ← HPP.out.2.2.2]
                have HG5 : Hid (g4 < w5.heap.size ∧ NB < w5.heap.size) := ⟨HROW5.out.lt, (Array.getElem?_eq_some_iff.1 HBX5.out).1⟩
                have hcl := (HT5.out.cells HKI.out).2.2.2.2.2
                have x5 : w5.drew.cell? ⟨bl k, 5, none⟩ = some (vs k) := hcl
                have HRK := hidT (HT5.out.row k HKI.out)
                have HBK := hidT (HT5.out.blk k HKI.out).2
                have HLK := hidT (HLO0.out k HKI.out)
                have hcn : (bC F i k).length ≤ 40 := by have := bC_len F i k; omega
                obtain ⟨vk, hvk⟩ : ∃ vk, vk = vs k := ⟨_, rfl⟩
                rw [← hvk] at x5 HRK HLK
                have HVK := hidT hvk
                clear hvk hcl hls
                obtain ⟨S, hSS⟩ : ∃ S : World → Prop, S = fun w' => w'.heap[NB]? = some (.cells #[.string pp, .bool pr, .int .i64 pm, .string pd] 32 (0, 0)) ∧ w'.cell? ⟨g4, la, none⟩ = some (.string ls) := ⟨_, rfl⟩
                have HSS := hidT hSS
                have hSd : S w5.drew := by rw [hSS]; exact ⟨HBX5.out, hl0⟩
                have HSK : Hid (∀ w', (∀ j, j < w5.heap.size → NB ≤ j → w'.heap[j]? = w5.heap[j]?) → S w') := fun w' h => by
                  rw [hSS]
                  refine ⟨(h NB HG5.out.2 (Nat.le_refl _)).trans HBX5.out, ?_⟩
                  have h2 : w'.heap[g4]? = w5.heap[g4]? := h g4 HG5.out.1 (Nat.le_of_lt HG4.out)
                  exact (World.cell?_of_block (a := ⟨g4, la, none⟩) h2).trans hl0
                have HRG : Hid (∀ w', S w' → w'.rangeAt NB 0 [.string pp, .bool pr, .int .i64 pm, .string pd]) := fun w' h => by rw [HSS.out] at h; exact rangeBox h.1
                have HXL : Hid (∀ w', S w' → w'.cell? ⟨g4, la, none⟩ = some (.string ls)) := fun w' h => by rw [HSS.out] at h; exact h.2
                have HL0 := hidT hl0
                clear hSS hl0
                go_wp2_with fail
                refine wp_region_held (S := S) (by kernel_rfl) ?_
                change wpAnyH _ _ _ _ _ _ _ _ (World.drew _)
                refine wpAnyH_take (i := 0) (v := .pointer (some ⟨bl k, 0, none⟩)) rfl (by kernel_rfl) (by kernel_rfl) (by kernel_rfl) (fun _ _ _ h => h) (Or.inl ⟨by rfl, by intro w' hS'; go_simp <;> (first | omega | (rw [IntKind.wrap_i64]; omega) | (rw [IntKind.wrap_u64]; omega) | (rw [IntKind.wrap_u32]; omega) | (rw [Int.tmod_eq_emod_of_nonneg (by omega)]) | rfl)⟩) hSd ?_
                (try simp only [List.getElem_toArray, List.getElem_cons_succ, List.getElem_cons_zero, Act.put, List.setIfInBounds_toArray, List.set_cons_zero, List.set_cons_succ])
                refine wpAnyH_take (i := 1) (v := .pointer (some ⟨bl k, 0, none⟩)) rfl (by kernel_rfl) (by kernel_rfl) (by kernel_rfl) (fun _ _ _ h => h) (Or.inl ⟨by rfl, by intro w' hS'; go_simp <;> (first | omega | (rw [IntKind.wrap_i64]; omega) | (rw [IntKind.wrap_u64]; omega) | (rw [IntKind.wrap_u32]; omega) | (rw [Int.tmod_eq_emod_of_nonneg (by omega)]) | rfl)⟩) hSd ?_
                (try simp only [List.getElem_toArray, List.getElem_cons_succ, List.getElem_cons_zero, Act.put, List.setIfInBounds_toArray, List.set_cons_zero, List.set_cons_succ])
                refine wpAnyH_take (i := 2) (v := .pointer (some ⟨bl k, 0, none⟩)) rfl (by kernel_rfl) (by kernel_rfl) (by kernel_rfl) (fun _ _ _ h => h) (Or.inl ⟨by rfl, by intro w' hS'; go_simp <;> (first | omega | (rw [IntKind.wrap_i64]; omega) | (rw [IntKind.wrap_u64]; omega) | (rw [IntKind.wrap_u32]; omega) | (rw [Int.tmod_eq_emod_of_nonneg (by omega)]) | rfl)⟩) hSd ?_
                (try simp only [List.getElem_toArray, List.getElem_cons_succ, List.getElem_cons_zero, Act.put, List.setIfInBounds_toArray, List.set_cons_zero, List.set_cons_succ])
                refine wpAnyH_take (i := 3) (v := .pointer (some ⟨bl k, 5, none⟩)) rfl (by kernel_rfl) (by kernel_rfl) (by kernel_rfl) (fun _ _ _ h => h) (Or.inl ⟨by rfl, by intro w' hS'; go_simp <;> (first | omega | (rw [IntKind.wrap_i64]; omega) | (rw [IntKind.wrap_u64]; omega) | (rw [IntKind.wrap_u32]; omega) | (rw [Int.tmod_eq_emod_of_nonneg (by omega)]) | rfl)⟩) hSd ?_
                (try simp only [List.getElem_toArray, List.getElem_cons_succ, List.getElem_cons_zero, Act.put, List.setIfInBounds_toArray, List.set_cons_zero, List.set_cons_succ])
                refine wpAnyH_take (i := 5) (v := .slice (some ⟨g4, 0, none⟩) P.length c4) rfl (by kernel_rfl) (by kernel_rfl) (by kernel_rfl) (fun _ _ _ h => h) (Or.inl ⟨by rfl, by intro w' hS'; go_simp <;> (first | omega | (rw [IntKind.wrap_i64]; omega) | (rw [IntKind.wrap_u64]; omega) | (rw [IntKind.wrap_u32]; omega) | (rw [Int.tmod_eq_emod_of_nonneg (by omega)]) | rfl)⟩) hSd ?_
                (try simp only [List.getElem_toArray, List.getElem_cons_succ, List.getElem_cons_zero, Act.put, List.setIfInBounds_toArray, List.set_cons_zero, List.set_cons_succ])
                refine wpAnyH_take (i := 6) (v := .int .i64 (la : Int)) rfl (by kernel_rfl) (by kernel_rfl) (by kernel_rfl) (fun _ _ _ h => h) (Or.inl ⟨by rfl, by intro w' hS'; go_simp <;> (first | omega | (rw [IntKind.wrap_i64]; omega) | (rw [IntKind.wrap_u64]; omega) | (rw [IntKind.wrap_u32]; omega) | (rw [Int.tmod_eq_emod_of_nonneg (by omega)]) | rfl)⟩) hSd ?_
                (try simp only [List.getElem_toArray, List.getElem_cons_succ, List.getElem_cons_zero, Act.put, List.setIfInBounds_toArray, List.set_cons_zero, List.set_cons_succ])
                refine wpAnyH_take (i := 7) (v := .pointer (some ⟨g4, la, none⟩)) rfl (by kernel_rfl) (by kernel_rfl) (by kernel_rfl) (fun _ _ _ h => h) (Or.inl ⟨by rfl, by intro w' hS'; go_simp <;> (first | omega | (rw [IntKind.wrap_i64]; omega) | (rw [IntKind.wrap_u64]; omega) | (rw [IntKind.wrap_u32]; omega) | (rw [Int.tmod_eq_emod_of_nonneg (by omega)]) | rfl)⟩) hSd ?_
                (try simp only [List.getElem_toArray, List.getElem_cons_succ, List.getElem_cons_zero, Act.put, List.setIfInBounds_toArray, List.set_cons_zero, List.set_cons_succ])
                refine wpAnyH_take (i := 8) (v := .string ls) rfl (by kernel_rfl) (by kernel_rfl) (by kernel_rfl) (fun _ _ _ h => h) (Or.inl ⟨by rfl, by intro w' hS'; have hxx := HXL.out w' hS'; go_simp <;> (first | omega | (rw [IntKind.wrap_i64]; omega) | (rw [IntKind.wrap_u64]; omega) | (rw [IntKind.wrap_u32]; omega) | (rw [Int.tmod_eq_emod_of_nonneg (by omega)]) | rfl)⟩) hSd ?_
                (try simp only [List.getElem_toArray, List.getElem_cons_succ, List.getElem_cons_zero, Act.put, List.setIfInBounds_toArray, List.set_cons_zero, List.set_cons_succ])
                refine wpAnyH_take (i := 9) (v := .agg #[.string pp, .bool pr, .int .i64 pm, .string pd]) rfl (by kernel_rfl) (by kernel_rfl) (by kernel_rfl) (fun _ _ _ h => h) (yieldsIf_load_mid (by rfl) 32 (.tmp 6) rfl NB 0 rfl [.string pp, .bool pr, .int .i64 pm, .string pd] _ HRG.out Tryd.underlying32 rfl (by kernel_rfl)) hSd ?_
                (try simp only [List.getElem_toArray, List.getElem_cons_succ, List.getElem_cons_zero, Act.put, List.setIfInBounds_toArray, List.set_cons_zero, List.set_cons_succ])
                refine wpAnyH_take (i := 10) (v := .agg #[.string ls, .string pp, .bool pr, .int .i64 pm, .string pd, .slice none 0 0]) rfl (by kernel_rfl) (by kernel_rfl) (by kernel_rfl) (fun _ _ _ h => h) (Or.inl ⟨by rfl, by intro w' hS'; go_simp <;> (first | omega | (rw [IntKind.wrap_i64]; omega) | (rw [IntKind.wrap_u64]; omega) | (rw [IntKind.wrap_u32]; omega) | (rw [Int.tmod_eq_emod_of_nonneg (by omega)]) | rfl)⟩) hSd ?_
                (try simp only [List.getElem_toArray, List.getElem_cons_succ, List.getElem_cons_zero, Act.put, List.setIfInBounds_toArray, List.set_cons_zero, List.set_cons_succ])
                refine held_two (i := 4) (k := 11) (by kernel_rfl) rfl rfl (by rfl) (by rfl) ?_ ?_
                · go_simp
                  refine ⟨hSd, ?_⟩
                  (try simp only [List.getElem_toArray, List.getElem_cons_succ, List.getElem_cons_zero, Act.put, List.setIfInBounds_toArray, List.set_cons_zero, List.set_cons_succ])
                  refine held_stepS (i := 11) (by kernel_rfl) rfl (by rfl) ?_
                  go_simp
                  refine ⟨HSK.out _ (fun j hj _ => Below.heap_alloc _ _ _ (by simpa using hj)), ?_⟩
                  (try simp only [List.getElem_toArray, List.getElem_cons_succ, List.getElem_cons_zero, Act.put, List.setIfInBounds_toArray, List.set_cons_zero, List.set_cons_succ])
                  refine held_stepS (i := 12) (by kernel_rfl) rfl (by rfl) ?_
                  go_simp
                  refine ⟨HSK.out _ (fun j hj _ => (Below.heap_alloc _ _ _ (by simp; omega)).trans (Below.heap_alloc _ _ _ (by simpa using hj))), ?_⟩
                  (try simp only [List.getElem_toArray, List.getElem_cons_succ, List.getElem_cons_zero, Act.put, List.setIfInBounds_toArray, List.set_cons_zero, List.set_cons_succ])
                  refine held_stepS (i := 13) (by kernel_rfl) rfl (by rfl) ?_
                  refine wp_append_frG _ _ _ 62 rfl w.heap.size 57 i0 (.pointer none) 1 8 Tryd.underlying62 hI0 hz0 hz1 hz2 rfl (by decide) vk (bC F i k).length _ rfl ((HRK.out.drew.alloc _).alloc _) ⟨w5.heap.size + 1, 0, none⟩ 1 1 [.pointer (some ⟨w5.heap.size, 0, none⟩)] (by first | rfl | simp) rfl (cellPt (by simp)) onePt (by unfold maxLen; omega) (by omega) (by have := HB5.out.size; simp; omega) ?_
                  intro v0 w9 ho hg hf
                  obtain ⟨va, vc, hv0⟩ := own1_sl ho
                  subst hv0
                  have hW : Below w5.heap.size w5 ((w5.drew.alloc (.cells #[.string ls, .string pp, .bool pr, .int .i64 pm, .string pd, .slice none 0 0] 64)).alloc (.cells #[.pointer (some ⟨w5.heap.size, 0, none⟩)] 57)) := ((Below.refl _ _).drew.alloc (by simp) _).alloc (by simp) _
                  have hlo : NB ≤ w5.heap.size := Nat.le_of_lt HG5.out.2
                  have hnew : ((w5.drew.alloc (.cells #[.string ls, .string pp, .bool pr, .int .i64 pm, .string pd, .slice none 0 0] 64)).alloc (.cells #[.pointer (some ⟨w5.heap.size, 0, none⟩)] 57)).heap[w5.heap.size]? = some (.cells (brV F (.slice none 0 0) (i + 1)) 64 (0, 0)) := by
                    rw [HBR.out, Below.heap_alloc _ _ _ (by simp)]
                    exact heap_alloc_new w5.drew _
                  have hvk2 : ∀ b, vk.ownBlock = some b → b < NB := HLK.out.2
                  have hpl := TR.plant (v' := .slice va ((bC F i k).length + 1) vc) (W3 := w9) HT5.out HKI.out HNX2.out.2.1 hW HB5.out.size rfl hnew ho (by rw [← HVK.out]; exact hg) (by rw [← HVK.out]; exact hf)
                  have h9 : ∀ j, j < w5.heap.size → vk.ownBlock ≠ some j → w9.heap[j]? = w5.heap[j]? := fun j hj hne => (hg.block j (by simp; omega) (fun e => hne e.symm)).trans (hW.block j hj)
                  have hbk9 : w9.heap[bl k]? = some (.cells (brV F vk k) 64 (0, 0)) := (h9 _ (by have := HLK.out.1; omega) (fun e => by
                    obtain ⟨_, cur, h2⟩ := own1_block HRK.out e
                    exact row_ne (by rw [HBK.out]) h2 rfl)).trans (by rw [HBK.out, ← HVK.out])
                  have y5 : w9.cell? ⟨bl k, 5, none⟩ = some vk := cell_of_row _ _ 5 _ _ _ hbk9
                  have z5 : w9.frozen? ⟨bl k, 5, none⟩ = false := frozen_of_row _ _ 5 _ _ hbk9
                  have hS9 : S w9 := HSK.out _ (fun j hj hN => h9 j hj (fun e => by have := hvk2 j e; omega))
                  have hS10 : S (w9.setCell ⟨bl k, 5, none⟩ (.slice va ((bC F i k).length + 1) vc)) := HSK.out _ (fun j hj hN => (heap_setCell_other _ _ _ _ (by show j ≠ bl k; have := HLK.out.1; omega)).trans (h9 j hj (fun e => by have := hvk2 j e; omega)))
                  have HPL := hidT hpl
                  have HBB := hidT (HB5.out.trans hpl.2)
                  clear hW hnew hg hf ho hpl h9 hbk9
                  refine ⟨hS9, ?_⟩
                  (try simp only [List.getElem_toArray, List.getElem_cons_succ, List.getElem_cons_zero, Act.put, List.setIfInBounds_toArray, List.set_cons_zero, List.set_cons_succ])
                  refine wpAnyH_take (i := 14) (v := .pointer (some ⟨bl k, 0, none⟩)) rfl (by kernel_rfl) (by kernel_rfl) (by kernel_rfl) (fun _ _ _ h => h) (Or.inl ⟨by rfl, by intro w' hS'; go_simp <;> (first | omega | (rw [IntKind.wrap_i64]; omega) | (rw [IntKind.wrap_u64]; omega) | (rw [IntKind.wrap_u32]; omega) | (rw [Int.tmod_eq_emod_of_nonneg (by omega)]) | rfl)⟩) hS9 ?_
                  (try simp only [List.getElem_toArray, List.getElem_cons_succ, List.getElem_cons_zero, Act.put, List.setIfInBounds_toArray, List.set_cons_zero, List.set_cons_succ])
                  refine wpAnyH_take (i := 15) (v := .pointer (some ⟨bl k, 5, none⟩)) rfl (by kernel_rfl) (by kernel_rfl) (by kernel_rfl) (fun _ _ _ h => h) (Or.inl ⟨by rfl, by intro w' hS'; go_simp <;> (first | omega | (rw [IntKind.wrap_i64]; omega) | (rw [IntKind.wrap_u64]; omega) | (rw [IntKind.wrap_u32]; omega) | (rw [Int.tmod_eq_emod_of_nonneg (by omega)]) | rfl)⟩) hS9 ?_
                  (try simp only [List.getElem_toArray, List.getElem_cons_succ, List.getElem_cons_zero, Act.put, List.setIfInBounds_toArray, List.set_cons_zero, List.set_cons_succ])
                  refine held_stepS (i := 16) (by kernel_rfl) rfl (by rfl) ?_
                  go_simp
                  refine ⟨hS10, ?_⟩
                  (try simp only [List.getElem_toArray, List.getElem_cons_succ, List.getElem_cons_zero, Act.put, List.setIfInBounds_toArray, List.set_cons_zero, List.set_cons_succ])
                  refine wpAnyH_done (by kernel_rfl) ?_ _
                  have hbn : blU bl (i + 1) w5.heap.size 0 = w.heap.size := by unfold blU; rw [if_neg (by omega)]; exact HBL.out
                  have HBN := hidT hbn
                  clear hbn
                  go_wp2_with fail
                  go_roundw
                  case rel => exact ⟨i + 1, blU bl (i + 1) w5.heap.size, vsU vs (i + 1) k _, by have := HLT.out; omega, by go_num, HBN, HNX2.out.1, HPL.out.1, HBB.out⟩
                  case measure => simp [trI]; have := HLT.out; omega
                · go_simp
                  refine ⟨HSK.out _ (fun j hj _ => Below.heap_alloc _ _ _ (by simpa using hj)), ?_⟩
                  (try simp only [List.getElem_toArray, List.getElem_cons_succ, List.getElem_cons_zero, Act.put, List.setIfInBounds_toArray, List.set_cons_zero, List.set_cons_succ])
                  refine held_two (i := 4) (k := 12) (by kernel_rfl) rfl rfl (by rfl) (by rfl) ?_ ?_
                  · have x51 : (w5.alloc (.cells #[.string ls, .string pp, .bool pr, .int .i64 pm, .string pd, .slice none 0 0] 64)).cell? ⟨bl k, 5, none⟩ = some vk := (World.cell?_of_block (a := ⟨bl k, 5, none⟩) (Below.heap_alloc _ _ _ (by have := HLK.out.1; have := HG5.out; simp; omega))).trans x5
                    go_simp
                    refine ⟨HSK.out _ (fun j hj _ => Below.heap_alloc _ _ _ (by simpa using hj)), ?_⟩
                    (try simp only [List.getElem_toArray, List.getElem_cons_succ, List.getElem_cons_zero, Act.put, List.setIfInBounds_toArray, List.set_cons_zero, List.set_cons_succ])
                    refine held_stepS (i := 12) (by kernel_rfl) rfl (by rfl) ?_
                    go_simp
                    refine ⟨HSK.out _ (fun j hj _ => (Below.heap_alloc _ _ _ (by simp; omega)).trans (Below.heap_alloc _ _ _ (by simpa using hj))), ?_⟩
                    (try simp only [List.getElem_toArray, List.getElem_cons_succ, List.getElem_cons_zero, Act.put, List.setIfInBounds_toArray, List.set_cons_zero, List.set_cons_succ])
                    refine held_stepS (i := 13) (by kernel_rfl) rfl (by rfl) ?_
                    refine wp_append_frG _ _ _ 62 rfl w.heap.size 57 i0 (.pointer none) 1 8 Tryd.underlying62 hI0 hz0 hz1 hz2 rfl (by decide) vk (bC F i k).length _ rfl ((HRK.out.drew.alloc _).alloc _) ⟨w5.heap.size + 1, 0, none⟩ 1 1 [.pointer (some ⟨w5.heap.size, 0, none⟩)] (by first | rfl | simp) rfl (cellPt (by simp)) onePt (by unfold maxLen; omega) (by omega) (by have := HB5.out.size; simp; omega) ?_
                    intro v0 w9 ho hg hf
                    obtain ⟨va, vc, hv0⟩ := own1_sl ho
                    subst hv0
                    have hW : Below w5.heap.size w5 ((w5.drew.alloc (.cells #[.string ls, .string pp, .bool pr, .int .i64 pm, .string pd, .slice none 0 0] 64)).alloc (.cells #[.pointer (some ⟨w5.heap.size, 0, none⟩)] 57)) := ((Below.refl _ _).drew.alloc (by simp) _).alloc (by simp) _
                    have hlo : NB ≤ w5.heap.size := Nat.le_of_lt HG5.out.2
                    have hnew : ((w5.drew.alloc (.cells #[.string ls, .string pp, .bool pr, .int .i64 pm, .string pd, .slice none 0 0] 64)).alloc (.cells #[.pointer (some ⟨w5.heap.size, 0, none⟩)] 57)).heap[w5.heap.size]? = some (.cells (brV F (.slice none 0 0) (i + 1)) 64 (0, 0)) := by
                      rw [HBR.out, Below.heap_alloc _ _ _ (by simp)]
                      exact heap_alloc_new w5.drew _
                    have hvk2 : ∀ b, vk.ownBlock = some b → b < NB := HLK.out.2
                    have hpl := TR.plant (v' := .slice va ((bC F i k).length + 1) vc) (W3 := w9) HT5.out HKI.out HNX2.out.2.1 hW HB5.out.size rfl hnew ho (by rw [← HVK.out]; exact hg) (by rw [← HVK.out]; exact hf)
                    have h9 : ∀ j, j < w5.heap.size → vk.ownBlock ≠ some j → w9.heap[j]? = w5.heap[j]? := fun j hj hne => (hg.block j (by simp; omega) (fun e => hne e.symm)).trans (hW.block j hj)
                    have hbk9 : w9.heap[bl k]? = some (.cells (brV F vk k) 64 (0, 0)) := (h9 _ (by have := HLK.out.1; omega) (fun e => by
                      obtain ⟨_, cur, h2⟩ := own1_block HRK.out e
                      exact row_ne (by rw [HBK.out]) h2 rfl)).trans (by rw [HBK.out, ← HVK.out])
                    have y5 : w9.cell? ⟨bl k, 5, none⟩ = some vk := cell_of_row _ _ 5 _ _ _ hbk9
                    have z5 : w9.frozen? ⟨bl k, 5, none⟩ = false := frozen_of_row _ _ 5 _ _ hbk9
                    have hS9 : S w9 := HSK.out _ (fun j hj hN => h9 j hj (fun e => by have := hvk2 j e; omega))
                    have hS10 : S (w9.setCell ⟨bl k, 5, none⟩ (.slice va ((bC F i k).length + 1) vc)) := HSK.out _ (fun j hj hN => (heap_setCell_other _ _ _ _ (by show j ≠ bl k; have := HLK.out.1; omega)).trans (h9 j hj (fun e => by have := hvk2 j e; omega)))
                    have HPL := hidT hpl
                    have HBB := hidT (HB5.out.trans hpl.2)
                    clear hW hnew hg hf ho hpl h9 hbk9
                    refine ⟨hS9, ?_⟩
                    (try simp only [List.getElem_toArray, List.getElem_cons_succ, List.getElem_cons_zero, Act.put, List.setIfInBounds_toArray, List.set_cons_zero, List.set_cons_succ])
                    refine wpAnyH_take (i := 14) (v := .pointer (some ⟨bl k, 0, none⟩)) rfl (by kernel_rfl) (by kernel_rfl) (by kernel_rfl) (fun _ _ _ h => h) (Or.inl ⟨by rfl, by intro w' hS'; go_simp <;> (first | omega | (rw [IntKind.wrap_i64]; omega) | (rw [IntKind.wrap_u64]; omega) | (rw [IntKind.wrap_u32]; omega) | (rw [Int.tmod_eq_emod_of_nonneg (by omega)]) | rfl)⟩) hS9 ?_
                    (try simp only [List.getElem_toArray, List.getElem_cons_succ, List.getElem_cons_zero, Act.put, List.setIfInBounds_toArray, List.set_cons_zero, List.set_cons_succ])
                    refine wpAnyH_take (i := 15) (v := .pointer (some ⟨bl k, 5, none⟩)) rfl (by kernel_rfl) (by kernel_rfl) (by kernel_rfl) (fun _ _ _ h => h) (Or.inl ⟨by rfl, by intro w' hS'; go_simp <;> (first | omega | (rw [IntKind.wrap_i64]; omega) | (rw [IntKind.wrap_u64]; omega) | (rw [IntKind.wrap_u32]; omega) | (rw [Int.tmod_eq_emod_of_nonneg (by omega)]) | rfl)⟩) hS9 ?_
                    (try simp only [List.getElem_toArray, List.getElem_cons_succ, List.getElem_cons_zero, Act.put, List.setIfInBounds_toArray, List.set_cons_zero, List.set_cons_succ])
                    refine held_stepS (i := 16) (by kernel_rfl) rfl (by rfl) ?_
                    go_simp
                    refine ⟨hS10, ?_⟩
                    (try simp only [List.getElem_toArray, List.getElem_cons_succ, List.getElem_cons_zero, Act.put, List.setIfInBounds_toArray, List.set_cons_zero, List.set_cons_succ])
                    refine wpAnyH_done (by kernel_rfl) ?_ _
                    have hbn : blU bl (i + 1) w5.heap.size 0 = w.heap.size := by unfold blU; rw [if_neg (by omega)]; exact HBL.out
                    have HBN := hidT hbn
                    clear hbn
                    go_wp2_with fail
                    go_roundw
                    case rel => exact ⟨i + 1, blU bl (i + 1) w5.heap.size, vsU vs (i + 1) k _, by have := HLT.out; omega, by go_num, HBN, HNX2.out.1, HPL.out.1, HBB.out⟩
                    case measure => simp [trI]; have := HLT.out; omega
                  · go_simp
                    refine ⟨HSK.out _ (fun j hj _ => (Below.heap_alloc _ _ _ (by simp; omega)).trans (Below.heap_alloc _ _ _ (by simpa using hj))), ?_⟩
                    (try simp only [List.getElem_toArray, List.getElem_cons_succ, List.getElem_cons_zero, Act.put, List.setIfInBounds_toArray, List.set_cons_zero, List.set_cons_succ])
                    have x51 : (w5.alloc (.cells #[.string ls, .string pp, .bool pr, .int .i64 pm, .string pd, .slice none 0 0] 64)).cell? ⟨bl k, 5, none⟩ = some vk := (World.cell?_of_block (a := ⟨bl k, 5, none⟩) (Below.heap_alloc _ _ _ (by have := HLK.out.1; have := HG5.out; simp; omega))).trans x5
                    have x52 : ((w5.alloc (.cells #[.string ls, .string pp, .bool pr, .int .i64 pm, .string pd, .slice none 0 0] 64)).alloc (.cells #[.pointer (some ⟨w5.heap.size, 0, none⟩)] 57)).cell? ⟨bl k, 5, none⟩ = some vk := (World.cell?_of_block (a := ⟨bl k, 5, none⟩) (Below.heap_alloc _ _ _ (by have := HLK.out.1; have := HG5.out; simp; omega))).trans x51
                    refine held_stepS (i := 4) (by kernel_rfl) rfl (by rfl) ?_
                    go_simp
                    refine ⟨HSK.out _ (fun j hj _ => (Below.heap_alloc _ _ _ (by simp; omega)).trans (Below.heap_alloc _ _ _ (by simpa using hj))), ?_⟩
                    (try simp only [List.getElem_toArray, List.getElem_cons_succ, List.getElem_cons_zero, Act.put, List.setIfInBounds_toArray, List.set_cons_zero, List.set_cons_succ])
                    refine held_stepS (i := 13) (by kernel_rfl) rfl (by rfl) ?_
                    refine wp_append_frG _ _ _ 62 rfl w.heap.size 57 i0 (.pointer none) 1 8 Tryd.underlying62 hI0 hz0 hz1 hz2 rfl (by decide) vk (bC F i k).length _ rfl ((HRK.out.drew.alloc _).alloc _) ⟨w5.heap.size + 1, 0, none⟩ 1 1 [.pointer (some ⟨w5.heap.size, 0, none⟩)] (by first | rfl | simp) rfl (cellPt (by simp)) onePt (by unfold maxLen; omega) (by omega) (by have := HB5.out.size; simp; omega) ?_
                    intro v0 w9 ho hg hf
                    obtain ⟨va, vc, hv0⟩ := own1_sl ho
                    subst hv0
                    have hW : Below w5.heap.size w5 ((w5.drew.alloc (.cells #[.string ls, .string pp, .bool pr, .int .i64 pm, .string pd, .slice none 0 0] 64)).alloc (.cells #[.pointer (some ⟨w5.heap.size, 0, none⟩)] 57)) := ((Below.refl _ _).drew.alloc (by simp) _).alloc (by simp) _
                    have hlo : NB ≤ w5.heap.size := Nat.le_of_lt HG5.out.2
                    have hnew : ((w5.drew.alloc (.cells #[.string ls, .string pp, .bool pr, .int .i64 pm, .string pd, .slice none 0 0] 64)).alloc (.cells #[.pointer (some ⟨w5.heap.size, 0, none⟩)] 57)).heap[w5.heap.size]? = some (.cells (brV F (.slice none 0 0) (i + 1)) 64 (0, 0)) := by
                      rw [HBR.out, Below.heap_alloc _ _ _ (by simp)]
                      exact heap_alloc_new w5.drew _
                    have hvk2 : ∀ b, vk.ownBlock = some b → b < NB := HLK.out.2
                    have hpl := TR.plant (v' := .slice va ((bC F i k).length + 1) vc) (W3 := w9) HT5.out HKI.out HNX2.out.2.1 hW HB5.out.size rfl hnew ho (by rw [← HVK.out]; exact hg) (by rw [← HVK.out]; exact hf)
                    have h9 : ∀ j, j < w5.heap.size → vk.ownBlock ≠ some j → w9.heap[j]? = w5.heap[j]? := fun j hj hne => (hg.block j (by simp; omega) (fun e => hne e.symm)).trans (hW.block j hj)
                    have hbk9 : w9.heap[bl k]? = some (.cells (brV F vk k) 64 (0, 0)) := (h9 _ (by have := HLK.out.1; omega) (fun e => by
                      obtain ⟨_, cur, h2⟩ := own1_block HRK.out e
                      exact row_ne (by rw [HBK.out]) h2 rfl)).trans (by rw [HBK.out, ← HVK.out])
                    have y5 : w9.cell? ⟨bl k, 5, none⟩ = some vk := cell_of_row _ _ 5 _ _ _ hbk9
                    have z5 : w9.frozen? ⟨bl k, 5, none⟩ = false := frozen_of_row _ _ 5 _ _ hbk9
                    have hS9 : S w9 := HSK.out _ (fun j hj hN => h9 j hj (fun e => by have := hvk2 j e; omega))
                    have hS10 : S (w9.setCell ⟨bl k, 5, none⟩ (.slice va ((bC F i k).length + 1) vc)) := HSK.out _ (fun j hj hN => (heap_setCell_other _ _ _ _ (by show j ≠ bl k; have := HLK.out.1; omega)).trans (h9 j hj (fun e => by have := hvk2 j e; omega)))
                    have HPL := hidT hpl
                    have HBB := hidT (HB5.out.trans hpl.2)
                    clear hW hnew hg hf ho hpl h9 hbk9
                    refine ⟨hS9, ?_⟩
                    (try simp only [List.getElem_toArray, List.getElem_cons_succ, List.getElem_cons_zero, Act.put, List.setIfInBounds_toArray, List.set_cons_zero, List.set_cons_succ])
                    refine wpAnyH_take (i := 14) (v := .pointer (some ⟨bl k, 0, none⟩)) rfl (by kernel_rfl) (by kernel_rfl) (by kernel_rfl) (fun _ _ _ h => h) (Or.inl ⟨by rfl, by intro w' hS'; go_simp <;> (first | omega | (rw [IntKind.wrap_i64]; omega) | (rw [IntKind.wrap_u64]; omega) | (rw [IntKind.wrap_u32]; omega) | (rw [Int.tmod_eq_emod_of_nonneg (by omega)]) | rfl)⟩) hS9 ?_
                    (try simp only [List.getElem_toArray, List.getElem_cons_succ, List.getElem_cons_zero, Act.put, List.setIfInBounds_toArray, List.set_cons_zero, List.set_cons_succ])
                    refine wpAnyH_take (i := 15) (v := .pointer (some ⟨bl k, 5, none⟩)) rfl (by kernel_rfl) (by kernel_rfl) (by kernel_rfl) (fun _ _ _ h => h) (Or.inl ⟨by rfl, by intro w' hS'; go_simp <;> (first | omega | (rw [IntKind.wrap_i64]; omega) | (rw [IntKind.wrap_u64]; omega) | (rw [IntKind.wrap_u32]; omega) | (rw [Int.tmod_eq_emod_of_nonneg (by omega)]) | rfl)⟩) hS9 ?_
                    (try simp only [List.getElem_toArray, List.getElem_cons_succ, List.getElem_cons_zero, Act.put, List.setIfInBounds_toArray, List.set_cons_zero, List.set_cons_succ])
                    refine held_stepS (i := 16) (by kernel_rfl) rfl (by rfl) ?_
                    go_simp
                    refine ⟨hS10, ?_⟩
                    (try simp only [List.getElem_toArray, List.getElem_cons_succ, List.getElem_cons_zero, Act.put, List.setIfInBounds_toArray, List.set_cons_zero, List.set_cons_succ])
                    refine wpAnyH_done (by kernel_rfl) ?_ _
                    have hbn : blU bl (i + 1) w5.heap.size 0 = w.heap.size := by unfold blU; rw [if_neg (by omega)]; exact HBL.out
                    have HBN := hidT hbn
                    clear hbn
                    go_wp2_with fail
                    go_roundw
                    case rel => exact ⟨i + 1, blU bl (i + 1) w5.heap.size, vsU vs (i + 1) k _, by have := HLT.out; omega, by go_num, HBN, HNX2.out.1, HPL.out.1, HBB.out⟩
                    case measure => simp [trI]; have := HLT.out; omega
          · have hle : (Op.bytesLess pp.toList pv.toList || (pp.toList == pv.toList)) = true := by
              rcases blt_tri pp.toList pv.toList with h | h | h
              · rw [h]; rfl
              · rw [h]; simp
              · exact absurd h hri
            have HNO : Hid (¬ ndR F n) := fun h => hri (by have := (h.2 i HLT.out.1).2.1 hi0; rw [← HPP.out.1, ← HPV.out.2] at this; exact this)
            clear hri
            obtain ⟨S, hSS⟩ : ∃ S : World → Prop, S = fun w' => Below w.heap.size w w' ∧ w'.heap[NB]? = some (.cells #[.string pp, .bool pr, .int .i64 pm, .string pd] 32 (0, 0)) := ⟨_, rfl⟩
            have HSS := hidT hSS
            have hSd : S wA.drew := by rw [hSS]; exact ⟨HBA.out.drew, HBOX.out⟩
            have HRG : Hid (∀ w', S w' → w'.rangeAt NB 0 [.string pp, .bool pr, .int .i64 pm, .string pd]) := fun w' h => by rw [HSS.out] at h; exact rangeBox h.2
            have HX0 : Hid (∀ w', S w' → w'.cell? ⟨NB, 0, none⟩ = some (.string pp)) := fun w' h => by rw [HSS.out] at h; exact cell_of_row _ _ 0 _ _ _ h.2
            have HXP : Hid (∀ w', S w' → w'.cell? ⟨g, qp, none⟩ = some (.string pv)) := fun w' h => by rw [HSS.out] at h; have h2 := (HROW.out w' h.1).c0 (i - 1) (by have := HLT.out; omega); rw [← HPV.out.1, ← HPV.out.2] at h2; exact h2
            clear hSS
            refine wp_region_held (S := S) (by kernel_rfl) ?_
            change wpAnyH _ _ _ _ _ _ _ _ (World.drew _)
            refine wpAnyH_take (i := 0) (v := .agg #[.string pp, .bool pr, .int .i64 pm, .string pd]) rfl (by kernel_rfl) (by kernel_rfl) (by kernel_rfl) (fun _ _ _ h => h) (yieldsIf_load_mid (by rfl) 32 (.tmp 6) rfl NB 0 rfl [.string pp, .bool pr, .int .i64 pm, .string pd] _ HRG.out Tryd.underlying32 rfl (by kernel_rfl)) hSd ?_
            (try simp only [List.getElem_toArray, List.getElem_cons_succ, List.getElem_cons_zero, Act.put, List.setIfInBounds_toArray, List.set_cons_zero, List.set_cons_succ])
            refine held_stepS (i := 1) (by kernel_rfl) rfl (by rfl) ?_
            go_simp
            refine (HCALL.out _ (HM.out _ HBA.out.drew)).mono ?_
            rintro e w3 ⟨rfl, hb3⟩
            have HB3 := hidT (blNd HBA.out.drew hb3 HBA.out.size)
            have HBX3 : Hid (w3.heap[NB]? = some (.cells #[.string pp, .bool pr, .int .i64 pm, .string pd] 32 (0, 0))) := (hb3.block _ (Array.getElem?_eq_some_iff.1 HBOX.out).1).trans HBOX.out
            have HT3 := hidT (HTA.out.keep (fun j hj => hb3.block j hj))
            have hS3 : S w3 := by rw [HSS.out]; exact ⟨HB3.out, HBX3.out⟩
            clear hb3
            refine ⟨hS3, ?_⟩
            (try simp only [List.getElem_toArray, List.getElem_cons_succ, List.getElem_cons_zero, Act.put, List.setIfInBounds_toArray, List.set_cons_zero, List.set_cons_succ])
            refine wpAnyH_take (i := 2) (v := .bool false) rfl (by kernel_rfl) (by kernel_rfl) (by kernel_rfl) (fun _ _ _ h => h) (Or.inl ⟨by rfl, by intro w' hS'; go_simp <;> (first | omega | (rw [IntKind.wrap_i64]; omega) | (rw [IntKind.wrap_u64]; omega) | (rw [IntKind.wrap_u32]; omega) | (rw [Int.tmod_eq_emod_of_nonneg (by omega)]) | rfl)⟩) hS3 ?_
            (try simp only [List.getElem_toArray, List.getElem_cons_succ, List.getElem_cons_zero, Act.put, List.setIfInBounds_toArray, List.set_cons_zero, List.set_cons_succ])
            refine wpAnyH_take (i := 3) (v := .bool false) rfl (by kernel_rfl) (by kernel_rfl) (by kernel_rfl) (fun _ _ _ h => h) (Or.inl ⟨by rfl, by intro w' hS'; go_simp <;> (first | omega | (rw [IntKind.wrap_i64]; omega) | (rw [IntKind.wrap_u64]; omega) | (rw [IntKind.wrap_u32]; omega) | (rw [Int.tmod_eq_emod_of_nonneg (by omega)]) | rfl)⟩) hS3 ?_
            (try simp only [List.getElem_toArray, List.getElem_cons_succ, List.getElem_cons_zero, Act.put, List.setIfInBounds_toArray, List.set_cons_zero, List.set_cons_succ])
            refine wpAnyH_take (i := 4) (v := .int .i64 (i : Int)) rfl (by kernel_rfl) (by kernel_rfl) (by kernel_rfl) (fun _ _ _ h => h) (Or.inl ⟨by rfl, by intro w' hS'; go_simp <;> (first | omega | (rw [IntKind.wrap_i64]; omega) | (rw [IntKind.wrap_u64]; omega) | (rw [IntKind.wrap_u32]; omega) | (rw [Int.tmod_eq_emod_of_nonneg (by omega)]) | rfl)⟩) hS3 ?_
            (try simp only [List.getElem_toArray, List.getElem_cons_succ, List.getElem_cons_zero, Act.put, List.setIfInBounds_toArray, List.set_cons_zero, List.set_cons_succ])
            refine wpAnyH_take (i := 5) (v := .bool true) rfl (by kernel_rfl) (by kernel_rfl) (by kernel_rfl) (fun _ _ _ h => h) (Or.inl ⟨by rfl, by intro w' hS'; go_simp <;> (first | omega | (rw [IntKind.wrap_i64]; omega) | (rw [IntKind.wrap_u64]; omega) | (rw [IntKind.wrap_u32]; omega) | (rw [Int.tmod_eq_emod_of_nonneg (by omega)]) | rfl)⟩) hS3 ?_
            (try simp only [List.getElem_toArray, List.getElem_cons_succ, List.getElem_cons_zero, Act.put, List.setIfInBounds_toArray, List.set_cons_zero, List.set_cons_succ])
            refine wpAnyH_take (i := 6) (v := .bool true) rfl (by kernel_rfl) (by kernel_rfl) (by kernel_rfl) (fun _ _ _ h => h) (Or.inl ⟨by rfl, by intro w' hS'; go_simp <;> (first | omega | (rw [IntKind.wrap_i64]; omega) | (rw [IntKind.wrap_u64]; omega) | (rw [IntKind.wrap_u32]; omega) | (rw [Int.tmod_eq_emod_of_nonneg (by omega)]) | rfl)⟩) hS3 ?_
            (try simp only [List.getElem_toArray, List.getElem_cons_succ, List.getElem_cons_zero, Act.put, List.setIfInBounds_toArray, List.set_cons_zero, List.set_cons_succ])
            refine wpAnyH_take (i := 7) (v := .pointer (some ⟨NB, 0, none⟩)) rfl (by kernel_rfl) (by kernel_rfl) (by kernel_rfl) (fun _ _ _ h => h) (Or.inl ⟨by rfl, by intro w' hS'; go_simp <;> (first | omega | (rw [IntKind.wrap_i64]; omega) | (rw [IntKind.wrap_u64]; omega) | (rw [IntKind.wrap_u32]; omega) | (rw [Int.tmod_eq_emod_of_nonneg (by omega)]) | rfl)⟩) hS3 ?_
            (try simp only [List.getElem_toArray, List.getElem_cons_succ, List.getElem_cons_zero, Act.put, List.setIfInBounds_toArray, List.set_cons_zero, List.set_cons_succ])
            refine wpAnyH_take (i := 8) (v := .string pp) rfl (by kernel_rfl) (by kernel_rfl) (by kernel_rfl) (fun _ _ _ h => h) (Or.inl ⟨by rfl, by intro w' hS'; have hxx := HX0.out w' hS'; go_simp <;> (first | omega | (rw [IntKind.wrap_i64]; omega) | (rw [IntKind.wrap_u64]; omega) | (rw [IntKind.wrap_u32]; omega) | (rw [Int.tmod_eq_emod_of_nonneg (by omega)]) | rfl)⟩) hS3 ?_
            (try simp only [List.getElem_toArray, List.getElem_cons_succ, List.getElem_cons_zero, Act.put, List.setIfInBounds_toArray, List.set_cons_zero, List.set_cons_succ])
            refine wpAnyH_take (i := 9) (v := .slice (some ⟨g, 0, none⟩) n c) rfl (by kernel_rfl) (by kernel_rfl) (by kernel_rfl) (fun _ _ _ h => h) (Or.inl ⟨by rfl, by intro w' hS'; go_simp <;> (first | omega | (rw [IntKind.wrap_i64]; omega) | (rw [IntKind.wrap_u64]; omega) | (rw [IntKind.wrap_u32]; omega) | (rw [Int.tmod_eq_emod_of_nonneg (by omega)]) | rfl)⟩) hS3 ?_
            (try simp only [List.getElem_toArray, List.getElem_cons_succ, List.getElem_cons_zero, Act.put, List.setIfInBounds_toArray, List.set_cons_zero, List.set_cons_succ])
            refine wpAnyH_take (i := 10) (v := .int .i64 (i : Int)) rfl (by kernel_rfl) (by kernel_rfl) (by kernel_rfl) (fun _ _ _ h => h) (Or.inl ⟨by rfl, by intro w' hS'; go_simp <;> (first | omega | (rw [IntKind.wrap_i64]; omega) | (rw [IntKind.wrap_u64]; omega) | (rw [IntKind.wrap_u32]; omega) | (rw [Int.tmod_eq_emod_of_nonneg (by omega)]) | rfl)⟩) hS3 ?_
            (try simp only [List.getElem_toArray, List.getElem_cons_succ, List.getElem_cons_zero, Act.put, List.setIfInBounds_toArray, List.set_cons_zero, List.set_cons_succ])
            refine wpAnyH_take (i := 11) (v := .int .i64 ((ip : Nat) : Int)) rfl (by kernel_rfl) (by kernel_rfl) (by kernel_rfl) (fun _ _ _ h => h) (Or.inl ⟨by rfl, by intro w' hS'; go_simp <;> (first | omega | (rw [IntKind.wrap_i64]; omega) | (rw [IntKind.wrap_u64]; omega) | (rw [IntKind.wrap_u32]; omega) | (rw [Int.tmod_eq_emod_of_nonneg (by omega)]) | rfl)⟩) hS3 ?_
            (try simp only [List.getElem_toArray, List.getElem_cons_succ, List.getElem_cons_zero, Act.put, List.setIfInBounds_toArray, List.set_cons_zero, List.set_cons_succ])
            refine wpAnyH_take (i := 12) (v := .pointer (some ⟨g, qp, none⟩)) rfl (by kernel_rfl) (by kernel_rfl) (by kernel_rfl) (fun _ _ _ h => h) (Or.inl ⟨by rfl, by intro w' hS'; go_simp <;> (first | omega | (rw [IntKind.wrap_i64]; omega) | (rw [IntKind.wrap_u64]; omega) | (rw [IntKind.wrap_u32]; omega) | (rw [Int.tmod_eq_emod_of_nonneg (by omega)]) | rfl)⟩) hS3 ?_
            (try simp only [List.getElem_toArray, List.getElem_cons_succ, List.getElem_cons_zero, Act.put, List.setIfInBounds_toArray, List.set_cons_zero, List.set_cons_succ])
            refine wpAnyH_take (i := 13) (v := .pointer (some ⟨g, qp, none⟩)) rfl (by kernel_rfl) (by kernel_rfl) (by kernel_rfl) (fun _ _ _ h => h) (Or.inl ⟨by rfl, by intro w' hS'; go_simp <;> (first | omega | (rw [IntKind.wrap_i64]; omega) | (rw [IntKind.wrap_u64]; omega) | (rw [IntKind.wrap_u32]; omega) | (rw [Int.tmod_eq_emod_of_nonneg (by omega)]) | rfl)⟩) hS3 ?_
            (try simp only [List.getElem_toArray, List.getElem_cons_succ, List.getElem_cons_zero, Act.put, List.setIfInBounds_toArray, List.set_cons_zero, List.set_cons_succ])
            refine wpAnyH_take (i := 14) (v := .string pv) rfl (by kernel_rfl) (by kernel_rfl) (by kernel_rfl) (fun _ _ _ h => h) (Or.inl ⟨by rfl, by intro w' hS'; have hxx := HXP.out w' hS'; go_simp <;> (first | omega | (rw [IntKind.wrap_i64]; omega) | (rw [IntKind.wrap_u64]; omega) | (rw [IntKind.wrap_u32]; omega) | (rw [Int.tmod_eq_emod_of_nonneg (by omega)]) | rfl)⟩) hS3 ?_
            (try simp only [List.getElem_toArray, List.getElem_cons_succ, List.getElem_cons_zero, Act.put, List.setIfInBounds_toArray, List.set_cons_zero, List.set_cons_succ])
            refine wpAnyH_take (i := 15) (v := .bool true) rfl (by kernel_rfl) (by kernel_rfl) (by kernel_rfl) (fun _ _ _ h => h) (Or.inl ⟨by rfl, by intro w' hS'; go_simp <;> (first | omega | (rw [IntKind.wrap_i64]; omega) | (rw [IntKind.wrap_u64]; omega) | (rw [IntKind.wrap_u32]; omega) | (rw [Int.tmod_eq_emod_of_nonneg (by omega)]) | rfl | (rw [hle]; rfl))⟩) hS3 ?_
            (try simp only [List.getElem_toArray, List.getElem_cons_succ, List.getElem_cons_zero, Act.put, List.setIfInBounds_toArray, List.set_cons_zero, List.set_cons_succ])
            refine wpAnyH_take (i := 16) (v := .bool true) rfl (by kernel_rfl) (by kernel_rfl) (by kernel_rfl) (fun _ _ _ h => h) (Or.inl ⟨by rfl, by intro w' hS'; go_simp <;> (first | omega | (rw [IntKind.wrap_i64]; omega) | (rw [IntKind.wrap_u64]; omega) | (rw [IntKind.wrap_u32]; omega) | (rw [Int.tmod_eq_emod_of_nonneg (by omega)]) | rfl)⟩) hS3 ?_
            (try simp only [List.getElem_toArray, List.getElem_cons_succ, List.getElem_cons_zero, Act.put, List.setIfInBounds_toArray, List.set_cons_zero, List.set_cons_succ])
            refine wpAnyH_take (i := 17) (v := .bool true) rfl (by kernel_rfl) (by kernel_rfl) (by kernel_rfl) (fun _ _ _ h => h) (Or.inl ⟨by rfl, by intro w' hS'; go_simp <;> (first | omega | (rw [IntKind.wrap_i64]; omega) | (rw [IntKind.wrap_u64]; omega) | (rw [IntKind.wrap_u32]; omega) | (rw [Int.tmod_eq_emod_of_nonneg (by omega)]) | rfl)⟩) hS3 ?_
            (try simp only [List.getElem_toArray, List.getElem_cons_succ, List.getElem_cons_zero, Act.put, List.setIfInBounds_toArray, List.set_cons_zero, List.set_cons_succ])
            refine wpAnyH_done (by kernel_rfl) ?_ _
            go_wp2_with fail
            go_ret2
            exact PlP.no HNO.out HB3.out
        · have hi0I : ¬ (0 : Int) < (i : Int) := by omega
          have HRI : Hid (ndRise F i) := fun h => absurd h hi0
          clear hi0
          obtain ⟨S, hSS⟩ : ∃ S : World → Prop, S = fun w' => Below w.heap.size w w' ∧ w'.heap[NB]? = some (.cells #[.string pp, .bool pr, .int .i64 pm, .string pd] 32 (0, 0)) := ⟨_, rfl⟩
          have HSS := hidT hSS
          have hSd : S wA.drew := by rw [hSS]; exact ⟨HBA.out.drew, HBOX.out⟩
          have HRG : Hid (∀ w', S w' → w'.rangeAt NB 0 [.string pp, .bool pr, .int .i64 pm, .string pd]) := fun w' h => by rw [HSS.out] at h; exact rangeBox h.2
          have HX0 : Hid (∀ w', S w' → w'.cell? ⟨NB, 0, none⟩ = some (.string pp)) := fun w' h => by rw [HSS.out] at h; exact cell_of_row _ _ 0 _ _ _ h.2
          clear hSS
          refine wp_region_held (S := S) (by kernel_rfl) ?_
          change wpAnyH _ _ _ _ _ _ _ _ (World.drew _)
          refine wpAnyH_take (i := 0) (v := .agg #[.string pp, .bool pr, .int .i64 pm, .string pd]) rfl (by kernel_rfl) (by kernel_rfl) (by kernel_rfl) (fun _ _ _ h => h) (yieldsIf_load_mid (by rfl) 32 (.tmp 6) rfl NB 0 rfl [.string pp, .bool pr, .int .i64 pm, .string pd] _ HRG.out Tryd.underlying32 rfl (by kernel_rfl)) hSd ?_
          (try simp only [List.getElem_toArray, List.getElem_cons_succ, List.getElem_cons_zero, Act.put, List.setIfInBounds_toArray, List.set_cons_zero, List.set_cons_succ])
          refine held_stepS (i := 1) (by kernel_rfl) rfl (by rfl) ?_
          go_simp
          refine (HCALL.out _ (HM.out _ HBA.out.drew)).mono ?_
          rintro e w3 ⟨rfl, hb3⟩
          have HB3 := hidT (blNd HBA.out.drew hb3 HBA.out.size)
          have HBX3 : Hid (w3.heap[NB]? = some (.cells #[.string pp, .bool pr, .int .i64 pm, .string pd] 32 (0, 0))) := (hb3.block _ (Array.getElem?_eq_some_iff.1 HBOX.out).1).trans HBOX.out
          have HT3 := hidT (HTA.out.keep (fun j hj => hb3.block j hj))
          have hS3 : S w3 := by rw [HSS.out]; exact ⟨HB3.out, HBX3.out⟩
          clear hb3
          refine ⟨hS3, ?_⟩
          (try simp only [List.getElem_toArray, List.getElem_cons_succ, List.getElem_cons_zero, Act.put, List.setIfInBounds_toArray, List.set_cons_zero, List.set_cons_succ])
          refine wpAnyH_take (i := 2) (v := .bool false) rfl (by kernel_rfl) (by kernel_rfl) (by kernel_rfl) (fun _ _ _ h => h) (Or.inl ⟨by rfl, by intro w' hS'; go_simp <;> (first | omega | (rw [IntKind.wrap_i64]; omega) | (rw [IntKind.wrap_u64]; omega) | (rw [IntKind.wrap_u32]; omega) | (rw [Int.tmod_eq_emod_of_nonneg (by omega)]) | rfl)⟩) hS3 ?_
          (try simp only [List.getElem_toArray, List.getElem_cons_succ, List.getElem_cons_zero, Act.put, List.setIfInBounds_toArray, List.set_cons_zero, List.set_cons_succ])
          refine wpAnyH_take (i := 3) (v := .bool false) rfl (by kernel_rfl) (by kernel_rfl) (by kernel_rfl) (fun _ _ _ h => h) (Or.inl ⟨by rfl, by intro w' hS'; go_simp <;> (first | omega | (rw [IntKind.wrap_i64]; omega) | (rw [IntKind.wrap_u64]; omega) | (rw [IntKind.wrap_u32]; omega) | (rw [Int.tmod_eq_emod_of_nonneg (by omega)]) | rfl)⟩) hS3 ?_
          (try simp only [List.getElem_toArray, List.getElem_cons_succ, List.getElem_cons_zero, Act.put, List.setIfInBounds_toArray, List.set_cons_zero, List.set_cons_succ])
          refine wpAnyH_take (i := 4) (v := .int .i64 (i : Int)) rfl (by kernel_rfl) (by kernel_rfl) (by kernel_rfl) (fun _ _ _ h => h) (Or.inl ⟨by rfl, by intro w' hS'; go_simp <;> (first | omega | (rw [IntKind.wrap_i64]; omega) | (rw [IntKind.wrap_u64]; omega) | (rw [IntKind.wrap_u32]; omega) | (rw [Int.tmod_eq_emod_of_nonneg (by omega)]) | rfl)⟩) hS3 ?_
          (try simp only [List.getElem_toArray, List.getElem_cons_succ, List.getElem_cons_zero, Act.put, List.setIfInBounds_toArray, List.set_cons_zero, List.set_cons_succ])
          refine wpAnyH_take (i := 5) (v := .bool false) rfl (by kernel_rfl) (by kernel_rfl) (by kernel_rfl) (fun _ _ _ h => h) (Or.inl ⟨by rfl, by intro w' hS'; go_simp <;> (first | omega | (rw [IntKind.wrap_i64]; omega) | (rw [IntKind.wrap_u64]; omega) | (rw [IntKind.wrap_u32]; omega) | (rw [Int.tmod_eq_emod_of_nonneg (by omega)]) | rfl)⟩) hS3 ?_
          (try simp only [List.getElem_toArray, List.getElem_cons_succ, List.getElem_cons_zero, Act.put, List.setIfInBounds_toArray, List.set_cons_zero, List.set_cons_succ])
          refine wpAnyH_take (i := 6) (v := .bool false) rfl (by kernel_rfl) (by kernel_rfl) (by kernel_rfl) (fun _ _ _ h => h) (Or.inl ⟨by rfl, by intro w' hS'; go_simp <;> (first | omega | (rw [IntKind.wrap_i64]; omega) | (rw [IntKind.wrap_u64]; omega) | (rw [IntKind.wrap_u32]; omega) | (rw [Int.tmod_eq_emod_of_nonneg (by omega)]) | rfl)⟩) hS3 ?_
          (try simp only [List.getElem_toArray, List.getElem_cons_succ, List.getElem_cons_zero, Act.put, List.setIfInBounds_toArray, List.set_cons_zero, List.set_cons_succ])
          refine wpAnyH_take (i := 7) (v := undef) rfl (by kernel_rfl) (by kernel_rfl) (by kernel_rfl) (fun _ _ _ h => h) (Or.inr ⟨by rfl, rfl⟩) hS3 ?_
          (try simp only [List.getElem_toArray, List.getElem_cons_succ, List.getElem_cons_zero, Act.put, List.setIfInBounds_toArray, List.set_cons_zero, List.set_cons_succ])
          refine wpAnyH_take (i := 8) (v := undef) rfl (by kernel_rfl) (by kernel_rfl) (by kernel_rfl) (fun _ _ _ h => h) (Or.inr ⟨by rfl, rfl⟩) hS3 ?_
          (try simp only [List.getElem_toArray, List.getElem_cons_succ, List.getElem_cons_zero, Act.put, List.setIfInBounds_toArray, List.set_cons_zero, List.set_cons_succ])
          refine wpAnyH_take (i := 9) (v := undef) rfl (by kernel_rfl) (by kernel_rfl) (by kernel_rfl) (fun _ _ _ h => h) (Or.inr ⟨by rfl, rfl⟩) hS3 ?_
          (try simp only [List.getElem_toArray, List.getElem_cons_succ, List.getElem_cons_zero, Act.put, List.setIfInBounds_toArray, List.set_cons_zero, List.set_cons_succ])
          refine wpAnyH_take (i := 10) (v := undef) rfl (by kernel_rfl) (by kernel_rfl) (by kernel_rfl) (fun _ _ _ h => h) (Or.inr ⟨by rfl, rfl⟩) hS3 ?_
          (try simp only [List.getElem_toArray, List.getElem_cons_succ, List.getElem_cons_zero, Act.put, List.setIfInBounds_toArray, List.set_cons_zero, List.set_cons_succ])
          refine wpAnyH_take (i := 11) (v := undef) rfl (by kernel_rfl) (by kernel_rfl) (by kernel_rfl) (fun _ _ _ h => h) (Or.inr ⟨by rfl, rfl⟩) hS3 ?_
          (try simp only [List.getElem_toArray, List.getElem_cons_succ, List.getElem_cons_zero, Act.put, List.setIfInBounds_toArray, List.set_cons_zero, List.set_cons_succ])
          refine wpAnyH_take (i := 12) (v := undef) rfl (by kernel_rfl) (by kernel_rfl) (by kernel_rfl) (fun _ _ _ h => h) (Or.inr ⟨by rfl, rfl⟩) hS3 ?_
          (try simp only [List.getElem_toArray, List.getElem_cons_succ, List.getElem_cons_zero, Act.put, List.setIfInBounds_toArray, List.set_cons_zero, List.set_cons_succ])
          refine wpAnyH_take (i := 13) (v := undef) rfl (by kernel_rfl) (by kernel_rfl) (by kernel_rfl) (fun _ _ _ h => h) (Or.inr ⟨by rfl, rfl⟩) hS3 ?_
          (try simp only [List.getElem_toArray, List.getElem_cons_succ, List.getElem_cons_zero, Act.put, List.setIfInBounds_toArray, List.set_cons_zero, List.set_cons_succ])
          refine wpAnyH_take (i := 14) (v := undef) rfl (by kernel_rfl) (by kernel_rfl) (by kernel_rfl) (fun _ _ _ h => h) (Or.inr ⟨by rfl, rfl⟩) hS3 ?_
          (try simp only [List.getElem_toArray, List.getElem_cons_succ, List.getElem_cons_zero, Act.put, List.setIfInBounds_toArray, List.set_cons_zero, List.set_cons_succ])
          refine wpAnyH_take (i := 15) (v := undef) rfl (by kernel_rfl) (by kernel_rfl) (by kernel_rfl) (fun _ _ _ h => h) (Or.inr ⟨by rfl, rfl⟩) hS3 ?_
          (try simp only [List.getElem_toArray, List.getElem_cons_succ, List.getElem_cons_zero, Act.put, List.setIfInBounds_toArray, List.set_cons_zero, List.set_cons_succ])
          refine wpAnyH_take (i := 16) (v := .bool false) rfl (by kernel_rfl) (by kernel_rfl) (by kernel_rfl) (fun _ _ _ h => h) (Or.inl ⟨by rfl, by intro w' hS'; go_simp <;> (first | omega | (rw [IntKind.wrap_i64]; omega) | (rw [IntKind.wrap_u64]; omega) | (rw [IntKind.wrap_u32]; omega) | (rw [Int.tmod_eq_emod_of_nonneg (by omega)]) | rfl)⟩) hS3 ?_
          (try simp only [List.getElem_toArray, List.getElem_cons_succ, List.getElem_cons_zero, Act.put, List.setIfInBounds_toArray, List.set_cons_zero, List.set_cons_succ])
          refine wpAnyH_take (i := 17) (v := .bool false) rfl (by kernel_rfl) (by kernel_rfl) (by kernel_rfl) (fun _ _ _ h => h) (Or.inl ⟨by rfl, by intro w' hS'; go_simp <;> (first | omega | (rw [IntKind.wrap_i64]; omega) | (rw [IntKind.wrap_u64]; omega) | (rw [IntKind.wrap_u32]; omega) | (rw [Int.tmod_eq_emod_of_nonneg (by omega)]) | rfl)⟩) hS3 ?_
          (try simp only [List.getElem_toArray, List.getElem_cons_succ, List.getElem_cons_zero, Act.put, List.setIfInBounds_toArray, List.set_cons_zero, List.set_cons_succ])
          refine wpAnyH_done (by kernel_rfl) ?_ _
          have b0 : w3.cell? ⟨NB, 0, none⟩ = some (.string pp) := cell_of_row _ _ 0 _ _ _ HBX3.out
          have HNB3 : Hid (NB < w3.heap.size) := (Array.getElem?_eq_some_iff.1 HBX3.out).1
          go_wp2_with fail
          refine (HNM.out _ _ HPS.out (HM.out _ HB3.out)).mono ?_
          rintro e w4 ⟨⟨g4, c4, rfl, hc4, hg4, hrow4⟩, hb4⟩
          clear b0
          have HB4 := hidT (blNd HB3.out hb4 HB3.out.size)
          have HBX4 : Hid (w4.heap[NB]? = some (.cells #[.string pp, .bool pr, .int .i64 pm, .string pd] 32 (0, 0))) := (hb4.block _ HNB3.out).trans HBX3.out
          have HT4 := hidT (HT3.out.below hb4)
          have hG4 : NB < g4 := Nat.lt_of_lt_of_le HNB3.out hg4
          have HG4 := hidT hG4
          have hpos := pcs_pos HOKK.out.1
          rw [← HPP.out.1] at hpos
          obtain ⟨P, hPe⟩ : ∃ P, P = pcsB pp := ⟨_, rfl⟩
          rw [← hPe] at hc4 hrow4 hpos ⊢
          obtain ⟨la, hla⟩ : ∃ la, la = P.length - 1 := ⟨_, rfl⟩
          have hwl : IntKind.i64.wrap ((P.length : Int) - 1) = (la : Int) := by rw [IntKind.wrap_i64]; omega
          have hlac : (la : Int) ≤ (c4 : Int) := by omega
          have hlaP : (la : Int) < (P.length : Int) := by omega
          have hPc : (P.length : Int) ≤ (c4 : Int) := by omega
          have hPD : P.dropLast.length = la := by rw [List.length_dropLast]; omega
          have HFX := hidT (HFD.out i bl vs g4 c4 P.dropLast w4 hi40 HV.out HT4.out hrow4.front (by omega))
          rw [hPD, HBL.out] at HFX
          have HPE : Hid (P = pcsB pp ∧ la = P.length - 1 ∧ 1 ≤ P.length) := ⟨hPe, hla, hpos.1⟩
          have HROW4 := hidT hrow4
          clear hrow4 hb4 hc4 hg4 hPe hla hpos hPD HB3 HBX3 HT3 hG4
          go_wp2_with fail
          refine (HFX.out).mono ?_
          rintro e w5 ⟨rfl, hb5⟩
          have HB5 := hidT (blNd HB4.out hb5 HB4.out.size)
          have HBX5 : Hid (w5.heap[NB]? = some (.cells #[.string pp, .bool pr, .int .i64 pm, .string pd] 32 (0, 0))) := (hb5.block _ (Array.getElem?_eq_some_iff.1 HBX4.out).1).trans HBX4.out
          have HT5 := hidT (HT4.out.below hb5)
          have HROW5 := hidT (HROW4.out.below hb5 HROW4.out.lt)
          clear hb5 HB4 HBX4 HT4 HROW4 HFX
          cases hf : bF F i P.dropLast with
          | none =>
            have HNO : Hid (¬ ndR F n) := fun h => by
              obtain ⟨k, hk, _⟩ := bF_must (trV_le h.2 (show i + 1 ≤ n by have := HLT.out; omega))
              rw [← HPP.out.1, ← HPE.out.1, hf] at hk
              cases hk
            clear hf
            unfold ptO
            go_wp2_with fail
            go_ret2
            exact PlP.no HNO.out HB5.out
          | some k =>
            have hki := (bF_inv hf).1
            have c2 := (HT5.out.cells hki).2.2.1
            have HKI := hidT hki
            have HMU : Hid (ndR F n → (bN F k).r = true) := fun h => by
              obtain ⟨k2, hk, hr⟩ := bF_must (trV_le h.2 (show i + 1 ≤ n by have := HLT.out; omega))
              rw [← HPP.out.1, ← HPE.out.1, hf] at hk
              injection hk with hk
              rw [hk]; exact hr
            have HNX : Hid ((bN F k).r = true → trV F (i + 1) ∧ bU F i = k ∧ k ≤ i) := fun h => trV_next HV.out HOKK.out HRI.out (by rw [← HPP.out.1, ← HPE.out.1]; exact hf) h
            clear hf hki
            unfold ptO
            generalize (bN F k).r = kr at c2 HMU HNX
            cases kr with
            | false =>
              have HNO : Hid (¬ ndR F n) := fun h => by have := HMU.out h; cases this
              clear HMU HNX
              go_wp2_with fail
              go_ret2
              exact PlP.no HNO.out HB5.out
            | true =>
              have hnx := HNX.out rfl
              have HNX2 := hidT hnx
              clear HMU HNX hnx
              obtain ⟨ls, hls⟩ : ∃ ls, ls = bL F (i + 1) := ⟨_, rfl⟩
              have hlaP2 : la < P.length := by have := HPE.out; omega
              have hl0 : w5.cell? ⟨g4, la, none⟩ = some (.string ls) := by
                have h1 := HROW5.out.c la hlaP2
                have e2 : pcsB (F i).p = P := by rw [HPE.out.1, HPP.out.1]
                have e3 : ls = P[la] := by
                  rw [hls]
                  show (pcsB (F i).p).getLastD ⟨#[]⟩ = _
                  rw [e2]
                  exact lastD_at HPE.out.2.1 hlaP2
                rw [h1, e3]
              clear hlaP2
              have HBR : Hid (brV F (.slice none 0 0) (i + 1) = #[.string ls, .string pp, .bool pr, .int .i64 pm, .string pd, .slice none 0 0]) := by
                show #[Value.string (bL F (i + 1)), .string (F i).p, .bool (F i).r, .int .i64 (F i).m, .string (F i).d, .slice none 0 0] = _
                rw [← hls, ← HPP.out.1, ← HPP.out.2.1, ← HPP.out.2.2.1, ← HPP.out.2.2.2]
              have HG5 : Hid (g4 < w5.heap.size ∧ NB < w5.heap.size) := ⟨HROW5.out.lt, (Array.getElem?_eq_some_iff.1 HBX5.out).1⟩
              have hcl := (HT5.out.cells HKI.out).2.2.2.2.2
              have x5 : w5.drew.cell? ⟨bl k, 5, none⟩ = some (vs k) := hcl
              have HRK := hidT (HT5.out.row k HKI.out)
              have HBK := hidT (HT5.out.blk k HKI.out).2
              have HLK := hidT (HLO0.out k HKI.out)
              have hcn : (bC F i k).length ≤ 40 := by have := bC_len F i k; omega
              obtain ⟨vk, hvk⟩ : ∃ vk, vk = vs k := ⟨_, rfl⟩
              rw [← hvk] at x5 HRK HLK
              have HVK := hidT hvk
              clear hvk hcl hls
              obtain ⟨S, hSS⟩ : ∃ S : World → Prop, S = fun w' => w'.heap[NB]? = some (.cells #[.string pp, .bool pr, .int .i64 pm, .string pd] 32 (0, 0)) ∧ w'.cell? ⟨g4, la, none⟩ = some (.string ls) := ⟨_, rfl⟩
              have HSS := hidT hSS
              have hSd : S w5.drew := by rw [hSS]; exact ⟨HBX5.out, hl0⟩
              have HSK : Hid (∀ w', (∀ j, j < w5.heap.size → NB ≤ j → w'.heap[j]? = w5.heap[j]?) → S w') := fun w' h => by
                rw [hSS]
                refine ⟨(h NB HG5.out.2 (Nat.le_refl _)).trans HBX5.out, ?_⟩
                have h2 : w'.heap[g4]? = w5.heap[g4]? := h g4 HG5.out.1 (Nat.le_of_lt HG4.out)
                exact (World.cell?_of_block (a := ⟨g4, la, none⟩) h2).trans hl0
              have HRG : Hid (∀ w', S w' → w'.rangeAt NB 0 [.string pp, .bool pr, .int .i64 pm, .string pd]) := fun w' h => by rw [HSS.out] at h; exact rangeBox h.1
              have HXL : Hid (∀ w', S w' → w'.cell? ⟨g4, la, none⟩ = some (.string ls)) := fun w' h => by rw [HSS.out] at h; exact h.2
              have HL0 := hidT hl0
              clear hSS hl0
              go_wp2_with fail
              refine wp_region_held (S := S) (by kernel_rfl) ?_
              change wpAnyH _ _ _ _ _ _ _ _ (World.drew _)
              refine wpAnyH_take (i := 0) (v := .pointer (some ⟨bl k, 0, none⟩)) rfl (by kernel_rfl) (by kernel_rfl) (by kernel_rfl) (fun _ _ _ h => h) (Or.inl ⟨by rfl, by intro w' hS'; go_simp <;> (first | omega | (rw [IntKind.wrap_i64]; omega) | (rw [IntKind.wrap_u64]; omega) | (rw [IntKind.wrap_u32]; omega) | (rw [Int.tmod_eq_emod_of_nonneg (by omega)]) | rfl)⟩) hSd ?_
              (try simp only [List.getElem_toArray, List.getElem_cons_succ, List.getElem_cons_zero, Act.put, List.setIfInBounds_toArray, List.set_cons_zero, List.set_cons_succ])
              refine wpAnyH_take (i := 1) (v := .pointer (some ⟨bl k, 0, none⟩)) rfl (by kernel_rfl) (by kernel_rfl) (by kernel_rfl) (fun _ _ _ h => h) (Or.inl ⟨by rfl, by intro w' hS'; go_simp <;> (first | omega | (rw [IntKind.wrap_i64]; omega) | (rw [IntKind.wrap_u64]; omega) | (rw [IntKind.wrap_u32]; omega) | (rw [Int.tmod_eq_emod_of_nonneg (by omega)]) | rfl)⟩) hSd ?_
              (try simp only [List.getElem_toArray, List.getElem_cons_succ, List.getElem_cons_zero, Act.put, List.setIfInBounds_toArray, List.set_cons_zero, List.set_cons_succ])
              refine wpAnyH_take (i := 2) (v := .pointer (some ⟨bl k, 0, none⟩)) rfl (by kernel_rfl) (by kernel_rfl) (by kernel_rfl) (fun _ _ _ h => h) (Or.inl ⟨by rfl, by intro w' hS'; go_simp <;> (first | omega | (rw [IntKind.wrap_i64]; omega) | (rw [IntKind.wrap_u64]; omega) | (rw [IntKind.wrap_u32]; omega) | (rw [Int.tmod_eq_emod_of_nonneg (by omega)]) | rfl)⟩) hSd ?_
              (try simp only [List.getElem_toArray, List.getElem_cons_succ, List.getElem_cons_zero, Act.put, List.setIfInBounds_toArray, List.set_cons_zero, List.set_cons_succ])
              refine wpAnyH_take (i := 3) (v := .pointer (some ⟨bl k, 5, none⟩)) rfl (by kernel_rfl) (by kernel_rfl) (by kernel_rfl) (fun _ _ _ h => h) (Or.inl ⟨by rfl, by intro w' hS'; go_simp <;> (first | omega | (rw [IntKind.wrap_i64]; omega) | (rw [IntKind.wrap_u64]; omega) | (rw [IntKind.wrap_u32]; omega) | (rw [Int.tmod_eq_emod_of_nonneg (by omega)]) | rfl)⟩) hSd ?_
              (try simp only [List.getElem_toArray, List.getElem_cons_succ, List.getElem_cons_zero, Act.put, List.setIfInBounds_toArray, List.set_cons_zero, List.set_cons_succ])
              refine wpAnyH_take (i := 5) (v := .slice (some ⟨g4, 0, none⟩) P.length c4) rfl (by kernel_rfl) (by kernel_rfl) (by kernel_rfl) (fun _ _ _ h => h) (Or.inl ⟨by rfl, by intro w' hS'; go_simp <;> (first | omega | (rw [IntKind.wrap_i64]; omega) | (rw [IntKind.wrap_u64]; omega) | (rw [IntKind.wrap_u32]; omega) | (rw [Int.tmod_eq_emod_of_nonneg (by omega)]) | rfl)⟩) hSd ?_
              (try simp only [List.getElem_toArray, List.getElem_cons_succ, List.getElem_cons_zero, Act.put, List.setIfInBounds_toArray, List.set_cons_zero, List.set_cons_succ])
              refine wpAnyH_take (i := 6) (v := .int .i64 (la : Int)) rfl (by kernel_rfl) (by kernel_rfl) (by kernel_rfl) (fun _ _ _ h => h) (Or.inl ⟨by rfl, by intro w' hS'; go_simp <;> (first | omega | (rw [IntKind.wrap_i64]; omega) | (rw [IntKind.wrap_u64]; omega) | (rw [IntKind.wrap_u32]; omega) | (rw [Int.tmod_eq_emod_of_nonneg (by omega)]) | rfl)⟩) hSd ?_
              (try simp only [List.getElem_toArray, List.getElem_cons_succ, List.getElem_cons_zero, Act.put, List.setIfInBounds_toArray, List.set_cons_zero, List.set_cons_succ])
              refine wpAnyH_take (i := 7) (v := .pointer (some ⟨g4, la, none⟩)) rfl (by kernel_rfl) (by kernel_rfl) (by kernel_rfl) (fun _ _ _ h => h) (Or.inl ⟨by rfl, by intro w' hS'; go_simp <;> (first | omega | (rw [IntKind.wrap_i64]; omega) | (rw [IntKind.wrap_u64]; omega) | (rw [IntKind.wrap_u32]; omega) | (rw [Int.tmod_eq_emod_of_nonneg (by omega)]) | rfl)⟩) hSd ?_
              (try simp only [List.getElem_toArray, List.getElem_cons_succ, List.getElem_cons_zero, Act.put, List.setIfInBounds_toArray, List.set_cons_zero, List.set_cons_succ])
              refine wpAnyH_take (i := 8) (v := .string ls) rfl (by kernel_rfl) (by kernel_rfl) (by kernel_rfl) (fun _ _ _ h => h) (Or.inl ⟨by rfl, by intro w' hS'; have hxx := HXL.out w' hS'; go_simp <;> (first | omega | (rw [IntKind.wrap_i64]; omega) | (rw [IntKind.wrap_u64]; omega) | (rw [IntKind.wrap_u32]; omega) | (rw [Int.tmod_eq_emod_of_nonneg (by omega)]) | rfl)⟩) hSd ?_
              (try simp only [List.getElem_toArray, List.getElem_cons_succ, List.getElem_cons_zero, Act.put, List.setIfInBounds_toArray, List.set_cons_zero, List.set_cons_succ])
              refine wpAnyH_take (i := 9) (v := .agg #[.string pp, .bool pr, .int .i64 pm, .string pd]) rfl (by kernel_rfl) (by kernel_rfl) (by kernel_rfl) (fun _ _ _ h => h) (yieldsIf_load_mid (by rfl) 32 (.tmp 6) rfl NB 0 rfl [.string pp, .bool pr, .int .i64 pm, .string pd] _ HRG.out Tryd.underlying32 rfl (by kernel_rfl)) hSd ?_
              (try simp only [List.getElem_toArray, List.getElem_cons_succ, List.getElem_cons_zero, Act.put, List.setIfInBounds_toArray, List.set_cons_zero, List.set_cons_succ])
              refine wpAnyH_take (i := 10) (v := .agg #[.string ls, .string pp, .bool pr, .int .i64 pm, .string pd, .slice none 0 0]) rfl (by kernel_rfl) (by kernel_rfl) (by kernel_rfl) (fun _ _ _ h => h) (Or.inl ⟨by rfl, by intro w' hS'; go_simp <;> (first | omega | (rw [IntKind.wrap_i64]; omega) | (rw [IntKind.wrap_u64]; omega) | (rw [IntKind.wrap_u32]; omega) | (rw [Int.tmod_eq_emod_of_nonneg (by omega)]) | rfl)⟩) hSd ?_
              (try simp only [List.getElem_toArray, List.getElem_cons_succ, List.getElem_cons_zero, Act.put, List.setIfInBounds_toArray, List.set_cons_zero, List.set_cons_succ])
              refine held_two (i := 4) (k := 11) (by kernel_rfl) rfl rfl (by rfl) (by rfl) ?_ ?_
              · go_simp
                refine ⟨hSd, ?_⟩
                (try simp only [List.getElem_toArray, List.getElem_cons_succ, List.getElem_cons_zero, Act.put, List.setIfInBounds_toArray, List.set_cons_zero, List.set_cons_succ])
                refine held_stepS (i := 11) (by kernel_rfl) rfl (by rfl) ?_
                go_simp
                refine ⟨HSK.out _ (fun j hj _ => Below.heap_alloc _ _ _ (by simpa using hj)), ?_⟩
                (try simp only [List.getElem_toArray, List.getElem_cons_succ, List.getElem_cons_zero, Act.put, List.setIfInBounds_toArray, List.set_cons_zero, List.set_cons_succ])
                refine held_stepS (i := 12) (by kernel_rfl) rfl (by rfl) ?_
                go_simp
                refine ⟨HSK.out _ (fun j hj _ => (Below.heap_alloc _ _ _ (by simp; omega)).trans (Below.heap_alloc _ _ _ (by simpa using hj))), ?_⟩
                (try simp only [List.getElem_toArray, List.getElem_cons_succ, List.getElem_cons_zero, Act.put, List.setIfInBounds_toArray, List.set_cons_zero, List.set_cons_succ])
                refine held_stepS (i := 13) (by kernel_rfl) rfl (by rfl) ?_
                refine wp_append_frG _ _ _ 62 rfl w.heap.size 57 i0 (.pointer none) 1 8 Tryd.underlying62 hI0 hz0 hz1 hz2 rfl (by decide) vk (bC F i k).length _ rfl ((HRK.out.drew.alloc _).alloc _) ⟨w5.heap.size + 1, 0, none⟩ 1 1 [.pointer (some ⟨w5.heap.size, 0, none⟩)] (by first | rfl | simp) rfl (cellPt (by simp)) onePt (by unfold maxLen; omega) (by omega) (by have := HB5.out.size; simp; omega) ?_
                intro v0 w9 ho hg hf
                obtain ⟨va, vc, hv0⟩ := own1_sl ho
                subst hv0
                have hW : Below w5.heap.size w5 ((w5.drew.alloc (.cells #[.string ls, .string pp, .bool pr, .int .i64 pm, .string pd, .slice none 0 0] 64)).alloc (.cells #[.pointer (some ⟨w5.heap.size, 0, none⟩)] 57)) := ((Below.refl _ _).drew.alloc (by simp) _).alloc (by simp) _
                have hlo : NB ≤ w5.heap.size := Nat.le_of_lt HG5.out.2
                have hnew : ((w5.drew.alloc (.cells #[.string ls, .string pp, .bool pr, .int .i64 pm, .string pd, .slice none 0 0] 64)).alloc (.cells #[.pointer (some ⟨w5.heap.size, 0, none⟩)] 57)).heap[w5.heap.size]? = some (.cells (brV F (.slice none 0 0) (i + 1)) 64 (0, 0)) := by
                  rw [HBR.out, Below.heap_alloc _ _ _ (by simp)]
                  exact heap_alloc_new w5.drew _
                have hvk2 : ∀ b, vk.ownBlock = some b → b < NB := HLK.out.2
                have hpl := TR.plant (v' := .slice va ((bC F i k).length + 1) vc) (W3 := w9) HT5.out HKI.out HNX2.out.2.1 hW HB5.out.size rfl hnew ho (by rw [← HVK.out]; exact hg) (by rw [← HVK.out]; exact hf)
                have h9 : ∀ j, j < w5.heap.size → vk.ownBlock ≠ some j → w9.heap[j]? = w5.heap[j]? := fun j hj hne => (hg.block j (by simp; omega) (fun e => hne e.symm)).trans (hW.block j hj)
                have hbk9 : w9.heap[bl k]? = some (.cells (brV F vk k) 64 (0, 0)) := (h9 _ (by have := HLK.out.1; omega) (fun e => by
                  obtain ⟨_, cur, h2⟩ := own1_block HRK.out e
                  exact row_ne (by rw [HBK.out]) h2 rfl)).trans (by rw [HBK.out, ← HVK.out])
                have y5 : w9.cell? ⟨bl k, 5, none⟩ = some vk := cell_of_row _ _ 5 _ _ _ hbk9
                have z5 : w9.frozen? ⟨bl k, 5, none⟩ = false := frozen_of_row _ _ 5 _ _ hbk9
                have hS9 : S w9 := HSK.out _ (fun j hj hN => h9 j hj (fun e => by have := hvk2 j e; omega))
                have hS10 : S (w9.setCell ⟨bl k, 5, none⟩ (.slice va ((bC F i k).length + 1) vc)) := HSK.out _ (fun j hj hN => (heap_setCell_other _ _ _ _ (by show j ≠ bl k; have := HLK.out.1; omega)).trans (h9 j hj (fun e => by have := hvk2 j e; omega)))
                have HPL := hidT hpl
                have HBB := hidT (HB5.out.trans hpl.2)
                clear hW hnew hg hf ho hpl h9 hbk9
                refine ⟨hS9, ?_⟩
                (try simp only [List.getElem_toArray, List.getElem_cons_succ, List.getElem_cons_zero, Act.put, List.setIfInBounds_toArray, List.set_cons_zero, List.set_cons_succ])
                refine wpAnyH_take (i := 14) (v := .pointer (some ⟨bl k, 0, none⟩)) rfl (by kernel_rfl) (by kernel_rfl) (by kernel_rfl) (fun _ _ _ h => h) (Or.inl ⟨by rfl, by intro w' hS'; go_simp <;> (first | omega | (rw [IntKind.wrap_i64]; omega) | (rw [IntKind.wrap_u64]; omega) | (rw [IntKind.wrap_u32]; omega) | (rw [Int.tmod_eq_emod_of_nonneg (by omega)]) | rfl)⟩) hS9 ?_
                (try simp only [List.getElem_toArray, List.getElem_cons_succ, List.getElem_cons_zero, Act.put, List.setIfInBounds_toArray, List.set_cons_zero, List.set_cons_succ])
                refine wpAnyH_take (i := 15) (v := .pointer (some ⟨bl k, 5, none⟩)) rfl (by kernel_rfl) (by kernel_rfl) (by kernel_rfl) (fun _ _ _ h => h) (Or.inl ⟨by rfl, by intro w' hS'; go_simp <;> (first | omega | (rw [IntKind.wrap_i64]; omega) | (rw [IntKind.wrap_u64]; omega) | (rw [IntKind.wrap_u32]; omega) | (rw [Int.tmod_eq_emod_of_nonneg (by omega)]) | rfl)⟩) hS9 ?_
                (try simp only [List.getElem_toArray, List.getElem_cons_succ, List.getElem_cons_zero, Act.put, List.setIfInBounds_toArray, List.set_cons_zero, List.set_cons_succ])
                refine held_stepS (i := 16) (by kernel_rfl) rfl (by rfl) ?_
                go_simp
                refine ⟨hS10, ?_⟩
                (try simp only [List.getElem_toArray, List.getElem_cons_succ, List.getElem_cons_zero, Act.put, List.setIfInBounds_toArray, List.set_cons_zero, List.set_cons_succ])
                refine wpAnyH_done (by kernel_rfl) ?_ _
                have hbn : blU bl (i + 1) w5.heap.size 0 = w.heap.size := by unfold blU; rw [if_neg (by omega)]; exact HBL.out
                have HBN := hidT hbn
                clear hbn
                go_wp2_with fail
                go_roundw
                case rel => exact ⟨i + 1, blU bl (i + 1) w5.heap.size, vsU vs (i + 1) k _, by have := HLT.out; omega, by go_num, HBN, HNX2.out.1, HPL.out.1, HBB.out⟩
                case measure => simp [trI]; have := HLT.out; omega
              · go_simp
                refine ⟨HSK.out _ (fun j hj _ => Below.heap_alloc _ _ _ (by simpa using hj)), ?_⟩
                (try simp only [List.getElem_toArray, List.getElem_cons_succ, List.getElem_cons_zero, Act.put, List.setIfInBounds_toArray, List.set_cons_zero, List.set_cons_succ])
                refine held_two (i := 4) (k := 12) (by kernel_rfl) rfl rfl (by rfl) (by rfl) ?_ ?_
                · have x51 : (w5.alloc (.cells #[.string ls, .string pp, .bool pr, .int .i64 pm, .string pd, .slice none 0 0] 64)).cell? ⟨bl k, 5, none⟩ = some vk := (World.cell?_of_block (a := ⟨bl k, 5, none⟩) (Below.heap_alloc _ _ _ (by have := HLK.out.1; have := HG5.out; simp; omega))).trans x5
                  go_simp
                  refine ⟨HSK.out _ (fun j hj _ => Below.heap_alloc _ _ _ (by simpa using hj)), ?_⟩
                  (try simp only [List.getElem_toArray, List.getElem_cons_succ, List.getElem_cons_zero, Act.put, List.setIfInBounds_toArray, List.set_cons_zero, List.set_cons_succ])
                  refine held_stepS (i := 12) (by kernel_rfl) rfl (by rfl) ?_
                  go_simp
                  refine ⟨HSK.out _ (fun j hj _ => (Below.heap_alloc _ _ _ (by simp; omega)).trans (Below.heap_alloc _ _ _ (by simpa using hj))), ?_⟩
                  (try simp only [List.getElem_toArray, List.getElem_cons_succ, List.getElem_cons_zero, Act.put, List.setIfInBounds_toArray, List.set_cons_zero, List.set_cons_succ])
                  refine held_stepS (i := 13) (by kernel_rfl) rfl (by rfl) ?_
                  refine wp_append_frG _ _ _ 62 rfl w.heap.size 57 i0 (.pointer none) 1 8 Tryd.underlying62 hI0 hz0 hz1 hz2 rfl (by decide) vk (bC F i k).length _ rfl ((HRK.out.drew.alloc _).alloc _) ⟨w5.heap.size + 1, 0, none⟩ 1 1 [.pointer (some ⟨w5.heap.size, 0, none⟩)] (by first | rfl | simp) rfl (cellPt (by simp)) onePt (by unfold maxLen; omega) (by omega) (by have := HB5.out.size; simp; omega) ?_
                  intro v0 w9 ho hg hf
                  obtain ⟨va, vc, hv0⟩ := own1_sl ho
                  subst hv0
                  have hW : Below w5.heap.size w5 ((w5.drew.alloc (.cells #[.string ls, .string pp, .bool pr, .int .i64 pm, .string pd, .slice none 0 0] 64)).alloc (.cells #[.pointer (some ⟨w5.heap.size, 0, none⟩)] 57)) := ((Below.refl _ _).drew.alloc (by simp) _).alloc (by simp) _
                  have hlo : NB ≤ w5.heap.size := Nat.le_of_lt HG5.out.2
                  have hnew : ((w5.drew.alloc (.cells #[.string ls, .string pp, .bool pr, .int .i64 pm, .string pd, .slice none 0 0] 64)).alloc (.cells #[.pointer (some ⟨w5.heap.size, 0, none⟩)] 57)).heap[w5.heap.size]? = some (.cells (brV F (.slice none 0 0) (i + 1)) 64 (0, 0)) := by
                    rw [HBR.out, Below.heap_alloc _ _ _ (by simp)]
                    exact heap_alloc_new w5.drew _
                  have hvk2 : ∀ b, vk.ownBlock = some b → b < NB := HLK.out.2
                  have hpl := TR.plant (v' := .slice va ((bC F i k).length + 1) vc) (W3 := w9) HT5.out HKI.out HNX2.out.2.1 hW HB5.out.size rfl hnew ho (by rw [← HVK.out]; exact hg) (by rw [← HVK.out]; exact hf)
                  have h9 : ∀ j, j < w5.heap.size → vk.ownBlock ≠ some j → w9.heap[j]? = w5.heap[j]? := fun j hj hne => (hg.block j (by simp; omega) (fun e => hne e.symm)).trans (hW.block j hj)
                  have hbk9 : w9.heap[bl k]? = some (.cells (brV F vk k) 64 (0, 0)) := (h9 _ (by have := HLK.out.1; omega) (fun e => by
                    obtain ⟨_, cur, h2⟩ := own1_block HRK.out e
                    exact row_ne (by rw [HBK.out]) h2 rfl)).trans (by rw [HBK.out, ← HVK.out])
                  have y5 : w9.cell? ⟨bl k, 5, none⟩ = some vk := cell_of_row _ _ 5 _ _ _ hbk9
                  have z5 : w9.frozen? ⟨bl k, 5, none⟩ = false := frozen_of_row _ _ 5 _ _ hbk9
                  have hS9 : S w9 := HSK.out _ (fun j hj hN => h9 j hj (fun e => by have := hvk2 j e; omega))
                  have hS10 : S (w9.setCell ⟨bl k, 5, none⟩ (.slice va ((bC F i k).length + 1) vc)) := HSK.out _ (fun j hj hN => (heap_setCell_other _ _ _ _ (by show j ≠ bl k; have := HLK.out.1; omega)).trans (h9 j hj (fun e => by have := hvk2 j e; omega)))
                  have HPL := hidT hpl
                  have HBB := hidT (HB5.out.trans hpl.2)
                  clear hW hnew hg hf ho hpl h9 hbk9
                  refine ⟨hS9, ?_⟩
                  (try simp only [List.getElem_toArray, List.getElem_cons_succ, List.getElem_cons_zero, Act.put, List.setIfInBounds_toArray, List.set_cons_zero, List.set_cons_succ])
                  refine wpAnyH_take (i := 14) (v := .pointer (some ⟨bl k, 0, none⟩)) rfl (by kernel_rfl) (by kernel_rfl) (by kernel_rfl) (fun _ _ _ h => h) (Or.inl ⟨by rfl, by intro w' hS'; go_simp <;> (first | omega | (rw [IntKind.wrap_i64]; omega) | (rw [IntKind.wrap_u64]; omega) | (rw [IntKind.wrap_u32]; omega) | (rw [Int.tmod_eq_emod_of_nonneg (by omega)]) | rfl)⟩) hS9 ?_
                  (try simp only [List.getElem_toArray, List.getElem_cons_succ, List.getElem_cons_zero, Act.put, List.setIfInBounds_toArray, List.set_cons_zero, List.set_cons_succ])
                  refine wpAnyH_take (i := 15) (v := .pointer (some ⟨bl k, 5, none⟩)) rfl (by kernel_rfl) (by kernel_rfl) (by kernel_rfl) (fun _ _ _ h => h) (Or.inl ⟨by rfl, by intro w' hS'; go_simp <;> (first | omega | (rw [IntKind.wrap_i64]; omega) | (rw [IntKind.wrap_u64]; omega) | (rw [IntKind.wrap_u32]; omega) | (rw [Int.tmod_eq_emod_of_nonneg (by omega)]) | rfl)⟩) hS9 ?_
                  (try simp only [List.getElem_toArray, List.getElem_cons_succ, List.getElem_cons_zero, Act.put, List.setIfInBounds_toArray, List.set_cons_zero, List.set_cons_succ])
                  refine held_stepS (i := 16) (by kernel_rfl) rfl (by rfl) ?_
                  go_simp
                  refine ⟨hS10, ?_⟩
                  (try simp only [List.getElem_toArray, List.getElem_cons_succ, List.getElem_cons_zero, Act.put, List.setIfInBounds_toArray, List.set_cons_zero, List.set_cons_succ])
                  refine wpAnyH_done (by kernel_rfl) ?_ _
                  have hbn : blU bl (i + 1) w5.heap.size 0 = w.heap.size := by unfold blU; rw [if_neg (by omega)]; exact HBL.out
                  have HBN := hidT hbn
                  clear hbn
                  go_wp2_with fail
                  go_roundw
                  case rel => exact ⟨i + 1, blU bl (i + 1) w5.heap.size, vsU vs (i + 1) k _, by have := HLT.out; omega, by go_num, HBN, HNX2.out.1, HPL.out.1, HBB.out⟩
                  case measure => simp [trI]; have := HLT.out; omega
                · go_simp
                  refine ⟨HSK.out _ (fun j hj _ => (Below.heap_alloc _ _ _ (by simp; omega)).trans (Below.heap_alloc _ _ _ (by simpa using hj))), ?_⟩
                  (try simp only [List.getElem_toArray, List.getElem_cons_succ, List.getElem_cons_zero, Act.put, List.setIfInBounds_toArray, List.set_cons_zero, List.set_cons_succ])
                  have x51 : (w5.alloc (.cells #[.string ls, .string pp, .bool pr, .int .i64 pm, .string pd, .slice none 0 0] 64)).cell? ⟨bl k, 5, none⟩ = some vk := (World.cell?_of_block (a := ⟨bl k, 5, none⟩) (Below.heap_alloc _ _ _ (by have := HLK.out.1; have := HG5.out; simp; omega))).trans x5
                  have x52 : ((w5.alloc (.cells #[.string ls, .string pp, .bool pr, .int .i64 pm, .string pd, .slice none 0 0] 64)).alloc (.cells #[.pointer (some ⟨w5.heap.size, 0, none⟩)] 57)).cell? ⟨bl k, 5, none⟩ = some vk := (World.cell?_of_block (a := ⟨bl k, 5, none⟩) (Below.heap_alloc _ _ _ (by have := HLK.out.1; have := HG5.out; simp; omega))).trans x51
                  refine held_stepS (i := 4) (by kernel_rfl) rfl (by rfl) ?_
                  go_simp
                  refine ⟨HSK.out _ (fun j hj _ => (Below.heap_alloc _ _ _ (by simp; omega)).trans (Below.heap_alloc _ _ _ (by simpa using hj))), ?_⟩
                  (try simp only [List.getElem_toArray, List.getElem_cons_succ, List.getElem_cons_zero, Act.put, List.setIfInBounds_toArray, List.set_cons_zero, List.set_cons_succ])
                  refine held_stepS (i := 13) (by kernel_rfl) rfl (by rfl) ?_
                  refine wp_append_frG _ _ _ 62 rfl w.heap.size 57 i0 (.pointer none) 1 8 Tryd.underlying62 hI0 hz0 hz1 hz2 rfl (by decide) vk (bC F i k).length _ rfl ((HRK.out.drew.alloc _).alloc _) ⟨w5.heap.size + 1, 0, none⟩ 1 1 [.pointer (some ⟨w5.heap.size, 0, none⟩)] (by first | rfl | simp) rfl (cellPt (by simp)) onePt (by unfold maxLen; omega) (by omega) (by have := HB5.out.size; simp; omega) ?_
                  intro v0 w9 ho hg hf
                  obtain ⟨va, vc, hv0⟩ := own1_sl ho
                  subst hv0
                  have hW : Below w5.heap.size w5 ((w5.drew.alloc (.cells #[.string ls, .string pp, .bool pr, .int .i64 pm, .string pd, .slice none 0 0] 64)).alloc (.cells #[.pointer (some ⟨w5.heap.size, 0, none⟩)] 57)) := ((Below.refl _ _).drew.alloc (by simp) _).alloc (by simp) _
                  have hlo : NB ≤ w5.heap.size := Nat.le_of_lt HG5.out.2
                  have hnew : ((w5.drew.alloc (.cells #[.string ls, .string pp, .bool pr, .int .i64 pm, .string pd, .slice none 0 0] 64)).alloc (.cells #[.pointer (some ⟨w5.heap.size, 0, none⟩)] 57)).heap[w5.heap.size]? = some (.cells (brV F (.slice none 0 0) (i + 1)) 64 (0, 0)) := by
                    rw [HBR.out, Below.heap_alloc _ _ _ (by simp)]
                    exact heap_alloc_new w5.drew _
                  have hvk2 : ∀ b, vk.ownBlock = some b → b < NB := HLK.out.2
                  have hpl := TR.plant (v' := .slice va ((bC F i k).length + 1) vc) (W3 := w9) HT5.out HKI.out HNX2.out.2.1 hW HB5.out.size rfl hnew ho (by rw [← HVK.out]; exact hg) (by rw [← HVK.out]; exact hf)
                  have h9 : ∀ j, j < w5.heap.size → vk.ownBlock ≠ some j → w9.heap[j]? = w5.heap[j]? := fun j hj hne => (hg.block j (by simp; omega) (fun e => hne e.symm)).trans (hW.block j hj)
                  have hbk9 : w9.heap[bl k]? = some (.cells (brV F vk k) 64 (0, 0)) := (h9 _ (by have := HLK.out.1; omega) (fun e => by
                    obtain ⟨_, cur, h2⟩ := own1_block HRK.out e
                    exact row_ne (by rw [HBK.out]) h2 rfl)).trans (by rw [HBK.out, ← HVK.out])
                  have y5 : w9.cell? ⟨bl k, 5, none⟩ = some vk := cell_of_row _ _ 5 _ _ _ hbk9
                  have z5 : w9.frozen? ⟨bl k, 5, none⟩ = false := frozen_of_row _ _ 5 _ _ hbk9
                  have hS9 : S w9 := HSK.out _ (fun j hj hN => h9 j hj (fun e => by have := hvk2 j e; omega))
                  have hS10 : S (w9.setCell ⟨bl k, 5, none⟩ (.slice va ((bC F i k).length + 1) vc)) := HSK.out _ (fun j hj hN => (heap_setCell_other _ _ _ _ (by show j ≠ bl k; have := HLK.out.1; omega)).trans (h9 j hj (fun e => by have := hvk2 j e; omega)))
                  have HPL := hidT hpl
                  have HBB := hidT (HB5.out.trans hpl.2)
                  clear hW hnew hg hf ho hpl h9 hbk9
                  refine ⟨hS9, ?_⟩
                  (try simp only [List.getElem_toArray, List.getElem_cons_succ, List.getElem_cons_zero, Act.put, List.setIfInBounds_toArray, List.set_cons_zero, List.set_cons_succ])
                  refine wpAnyH_take (i := 14) (v := .pointer (some ⟨bl k, 0, none⟩)) rfl (by kernel_rfl) (by kernel_rfl) (by kernel_rfl) (fun _ _ _ h => h) (Or.inl ⟨by rfl, by intro w' hS'; go_simp <;> (first | omega | (rw [IntKind.wrap_i64]; omega) | (rw [IntKind.wrap_u64]; omega) | (rw [IntKind.wrap_u32]; omega) | (rw [Int.tmod_eq_emod_of_nonneg (by omega)]) | rfl)⟩) hS9 ?_
                  (try simp only [List.getElem_toArray, List.getElem_cons_succ, List.getElem_cons_zero, Act.put, List.setIfInBounds_toArray, List.set_cons_zero, List.set_cons_succ])
                  refine wpAnyH_take (i := 15) (v := .pointer (some ⟨bl k, 5, none⟩)) rfl (by kernel_rfl) (by kernel_rfl) (by kernel_rfl) (fun _ _ _ h => h) (Or.inl ⟨by rfl, by intro w' hS'; go_simp <;> (first | omega | (rw [IntKind.wrap_i64]; omega) | (rw [IntKind.wrap_u64]; omega) | (rw [IntKind.wrap_u32]; omega) | (rw [Int.tmod_eq_emod_of_nonneg (by omega)]) | rfl)⟩) hS9 ?_
                  (try simp only [List.getElem_toArray, List.getElem_cons_succ, List.getElem_cons_zero, Act.put, List.setIfInBounds_toArray, List.set_cons_zero, List.set_cons_succ])
                  refine held_stepS (i := 16) (by kernel_rfl) rfl (by rfl) ?_
                  go_simp
                  refine ⟨hS10, ?_⟩
                  (try simp only [List.getElem_toArray, List.getElem_cons_succ, List.getElem_cons_zero, Act.put, List.setIfInBounds_toArray, List.set_cons_zero, List.set_cons_succ])
                  refine wpAnyH_done (by kernel_rfl) ?_ _
                  have hbn : blU bl (i + 1) w5.heap.size 0 = w.heap.size := by unfold blU; rw [if_neg (by omega)]; exact HBL.out
                  have HBN := hidT hbn
                  clear hbn
                  go_wp2_with fail
                  go_roundw
                  case rel => exact ⟨i + 1, blU bl (i + 1) w5.heap.size, vsU vs (i + 1) k _, by have := HLT.out; omega, by go_num, HBN, HNX2.out.1, HPL.out.1, HBB.out⟩
                  case measure => simp [trI]; have := HLT.out; omega
    · obtain rfl : i = n := by omega
      have hbl := HBL.out
      go_wp2_with fail
      go_ret2
      exact ⟨Or.inl ⟨⟨HN40.out, HV.out⟩, bl, vs, by rw [hbl]; first | rfl | simp, HT.out⟩, HB.out⟩
set_option maxRecDepth 100000 in
theorem planted_bad (a : Option Addr) (c n : Nat) (F : Nat → NdI) (w : World) (h : ¬ n ≤ 40) :
    Calls Tryd.prog 22 #[.slice a n c] w fun e w' => PlP w F n e w' := by
  have HNO : Hid (¬ ndR F n) := fun c => h c.1
  have h3I : (40 : Int) < (n : Int) := by omega
  clear h
  go_enter Tryd.func22, Tryd.ntmps22
  go_wp2_with fail
  go_ret2
  exact PlP.no HNO.out (Below.refl _ _)
theorem planted_any (v : Value) (n : Nat) (F : Nat → NdI) (w : World) (hF : NdLe F n) (hm : MxL w) (h : NdArg w v n F) :
    Calls Tryd.prog 22 #[v] w fun e w' => PlP w F n e w' := by
  obtain ⟨a, c, rfl, hr⟩ := h
  by_cases h : n ≤ 40
  · exact planted_loop a c n F w h hF hm hr
  · exact planted_bad a c n F w h
set_option maxRecDepth 100000 in
set_option maxHeartbeats 1000000 in
theorem treeOk_any (v : Value) (n : Nat) (F : Nat → NdI) (w : World) (hF : NdLe F n) (hm : MxL w) (h : NdArg w v n F) :
    Calls Tryd.prog 70 #[v] w fun e w' => e = .returned (.bool (ndB F n)) ∧ Below w.heap.size w w' := by
  have HP : Hid (Calls Tryd.prog 22 #[v] w fun e w' => PlP w F n e w') := planted_any v n F w hF hm h
  have HY : Hid (ndR F n → ndB F n = true) := fun h => ndB_yes h
  have HN : Hid (¬ ndR F n → ndB F n = false) := fun h => ndB_no h
  go_enter Tryd.func70, Tryd.ntmps70
  go_wp2_with fail
  refine HP.out.mono ?_
  rintro e w1 ⟨⟨hr, bl, vs, rfl, ht⟩ | ⟨hr, rfl⟩, hb⟩
  · have e1 := HY.out hr
    go_wp2_with fail
    go_ret
    exact ⟨by rw [e1]; rfl, hb⟩
  · have e1 := HN.out hr
    go_wp2_with fail
    go_ret
    exact ⟨by rw [e1]; rfl, hb⟩
end Go.Proofs.YtbmcjoaigajjkaaDoor
