/-
  The closure that gathers what lies below a branch.
-/
import Derived.Test.YtfegoldjejlcaaaDoorUnM
import Derived.Test.YtfegoldjejlcaaaDoorTrFi
import Derived.Test.YtfegoldjejlcaaaDoorAppG
import Derived.Test.YtfegoldjejlcaaaDoorKp
import Derived.Test.YtfegoldjejlcaaaDoorHeld
import Derived.Laws.AppendOwn
import Derived.Test.YtfegoldjejlcaaaDoorRtL
namespace Go.Proofs.YtfegoldjejlcaaaDoor
open Go.RowKit
set_option linter.unusedVariables false
set_option linter.unusedSimpArgs false
/-- memory while nodes are gathered -/
structure GT (w0 wr : World) (nb gb : Nat) (v : Value) (L : List NdI) : Prop where
  bel : Below w0.heap.size w0 wr
  box : wr.heap[nb]? = some (.cells #[v] 24 (0, 0))
  fn : wr.heap[gb]? = some (.cells #[.func (.func 44) #[] #[.pointer (some ⟨nb, 0, none⟩), .pointer (some ⟨gb, 0, none⟩)]] 64 (0, 0))
  own : wr.ownsRow w0.heap.size 30 4 v L.length (ndC L)
  nlt : w0.heap.size ≤ nb
  glt : w0.heap.size ≤ gb
  nne : nb ≠ gb
theorem GT.call {w0 wr w' : World} {nb gb : Nat} {v : Value} {L : List NdI} (h : GT w0 wr nb gb v L) (hb : Below wr.heap.size wr w') : GT w0 w' nb gb v L :=
  ⟨blNd h.bel hb h.bel.size, (hb.block _ (Array.getElem?_eq_some_iff.1 h.box).1).trans h.box, (hb.block _ (Array.getElem?_eq_some_iff.1 h.fn).1).trans h.fn, own_callK h.own hb, h.nlt, h.glt, h.nne⟩
theorem own_type {w : World} {B z n b : Nat} {e : TypeId} {v : Value} {xs : List Value} (h : w.ownsRow B e z v n xs) (hb : v.ownBlock = some b) : ∃ cur, w.heap[b]? = some (.cells cur e (0, 0)) := by
  obtain ⟨h0, h1 | ⟨g, cap, cur, h1, h2, h3, _⟩⟩ := h
  · rw [h1.1] at hb; cases hb
  · subst h1
    cases hb
    exact ⟨cur, h3⟩
theorem GT.app {w0 wr w9 : World} {nb gb : Nat} {v v' : Value} {L : List NdI} {p : NdI} (h : GT w0 wr nb gb v L) (ho : w9.ownsRow w0.heap.size 30 4 v' (L ++ [p]).length (ndC (L ++ [p]))) (hg : wr.grownBy w9 v.ownBlock) : GT w0 (w9.setCell ⟨nb, 0, none⟩ v') nb gb v' (L ++ [p]) ∧ w9.heap[nb]? = some (.cells #[v] 24 (0, 0)) := by
  have n1 : some nb ≠ v.ownBlock := fun e => by
    obtain ⟨cur, hc⟩ := own_type h.own e.symm
    rw [h.box] at hc
    have := Option.some.inj hc
    injection this with _ h2
    exact absurd h2 (by decide)
  have n2 : some gb ≠ v.ownBlock := fun e => by
    obtain ⟨cur, hc⟩ := own_type h.own e.symm
    rw [h.fn] at hc
    have := Option.some.inj hc
    injection this with _ h2
    exact absurd h2 (by decide)
  have b9 : w9.heap[nb]? = some (.cells #[v] 24 (0, 0)) := (hg.block _ (Array.getElem?_eq_some_iff.1 h.box).1 n1).trans h.box
  have f9 : w9.heap[gb]? = some (.cells #[.func (.func 44) #[] #[.pointer (some ⟨nb, 0, none⟩), .pointer (some ⟨gb, 0, none⟩)]] 64 (0, 0)) := (hg.block _ (Array.getElem?_eq_some_iff.1 h.fn).1 n2).trans h.fn
  have hb9 : Below w0.heap.size w0 w9 := h.bel.grown hg h.bel.size (fun k hk => (h.own.lt k hk).1)
  refine ⟨⟨hb9.setCell (p := ⟨nb, 0, none⟩) h.nlt v', ?_, ?_, ?_, h.nlt, h.glt, h.nne⟩, b9⟩
  · have := heap_setCell_same w9 nb 0 #[v] 24 v' b9
    exact this
  · exact (heap_setCell_other _ _ _ _ (fun e => h.nne e.symm)).trans f9
  · refine owns_row_ofG ho fun k hk => heap_setCell_other _ _ _ _ fun e => ?_
    have e2 : k = nb := e
    subst e2
    obtain ⟨cur, hc⟩ := own_type ho hk
    rw [b9] at hc
    have := Option.some.inj hc
    injection this with _ h2
    exact absurd h2 (by decide)
theorem four_nd (a : ByteArray) (r : Bool) (m : Int) (d : ByteArray) : ∀ u ∈ [Value.string a, .bool r, .int .i64 m, .string d], u.oneCell' = true := by
  intro u hu
  simp only [List.mem_cons, List.not_mem_nil, or_false] at hu
  rcases hu with rfl | rfl | rfl | rfl <;> rfl
theorem cell_fourG {W : World} {x y z u : Value} {t : TypeId} {k : Nat} (hk : W.heap.size = k) : ∀ j q, [x, y, z, u][j]? = some q → (W.alloc (.cells #[x, y, z, u] t)).cell? ((⟨k, 0, none⟩ : Addr).add j) = some q := by
  subst hk
  intro j q hj
  match j, hj with
  | 0, hj => cases hj; exact cell_of_row _ _ 0 _ _ _ (heap_alloc_new W _)
  | 1, hj => cases hj; exact cell_of_row _ _ 1 _ _ _ (heap_alloc_new W _)
  | 2, hj => cases hj; exact cell_of_row _ _ 2 _ _ _ (heap_alloc_new W _)
  | 3, hj => cases hj; exact cell_of_row _ _ 3 _ _ _ (heap_alloc_new W _)
theorem Tryd.infNdG : (Tryd.prog.info? 30).map (fun i => (i.zero, i.size, i.bytes)) = some (some (.agg #[.string ⟨#[]⟩, .bool false, .int .i64 0, .string ⟨#[]⟩]), 4, 48) := by kernel_rfl
set_option maxRecDepth 100000 in
set_option maxHeartbeats 8000000 in
theorem gather_step (F : Nat → NdI) (n : Nat) (bl : Nat → Nat) (vs : Nat → Value) (B nb gb k : Nat) (w0 : World) (G : Nat → List NdI) (hF : NdLe F n) (hn : n ≤ 40) (hT : TR w0 B F n bl vs) (hk1 : 1 ≤ k) (hkn : k ≤ n)
    (hIH : ∀ c ∈ bC F n k, ∀ v L wr, GT w0 wr nb gb v L → L.length + (G c).length ≤ 1000 → Calls Tryd.prog 44 #[.pointer (some ⟨bl c, 0, none⟩), .pointer (some ⟨nb, 0, none⟩), .pointer (some ⟨gb, 0, none⟩)] wr fun e w' => e = .returned (.tuple #[]) ∧ ∃ v', GT w0 w' nb gb v' (L ++ G c))
    (v : Value) (L : List NdI) (wr : World) (h : GT w0 wr nb gb v L) (hL : L.length + 1 + ((bC F n k).flatMap G).length ≤ 1000) :
    Calls Tryd.prog 44 #[.pointer (some ⟨bl k, 0, none⟩), .pointer (some ⟨nb, 0, none⟩), .pointer (some ⟨gb, 0, none⟩)] wr fun e w' => e = .returned (.tuple #[]) ∧ ∃ v', GT w0 w' nb gb v' (L ++ bN F k :: (bC F n k).flatMap G) := by
  have HTR : Hid (∀ w', Below w0.heap.size w0 w' → TR w' B F n bl vs) := fun w' hb => hT.below hb
  have HIH := hidT hIH
  have HCP : Hid (∀ (p : NdI) w, (p.p.size ≤ 1048576 ∧ p.d.size ≤ 1048576) → Calls Tryd.prog 45 #[ndVal p] w fun e w' => e = .returned (ndVal p) ∧ Below w.heap.size w w') := fun p w h => copied_any p w h
  have HSZ : Hid ((bN F k).p.size ≤ 1048576 ∧ (bN F k).d.size ≤ 1048576) := by
    cases k with
    | zero => omega
    | succ j => exact hF.s (by omega)
  have HGT := hidT h
  have HLL := hidT hL
  have HCL := hidT (bC_len F n k)
  have hform := own1_form ((hT.below h.bel).row k hkn)
  obtain ⟨sa, sn, sc, hvs, hsn⟩ : ∃ sa sn sc, vs k = .slice sa sn sc ∧ sn = (bC F n k).length := by
    rcases hform with ⟨h1, h2⟩ | ⟨g2, c2, h1, _⟩
    · exact ⟨_, _, _, h1, h2.symm⟩
    · exact ⟨_, _, _, h1, rfl⟩
  have HSL : Hid (∀ w', Below w0.heap.size w0 w' → ∀ j (hj : j < (bC F n k).length), ∃ g, sa = some ⟨g, 0, none⟩ ∧ w'.cell? ⟨g, j, none⟩ = some (.pointer (some ⟨bl (bC F n k)[j], 0, none⟩))) := fun w' hb j hj => by
    have hr := (hT.below hb).row k hkn
    rw [hvs] at hr
    rcases own1_form hr with ⟨h1, h2⟩ | ⟨g2, c2, h1, _, hc⟩
    · omega
    · cases h1
      exact ⟨g2, rfl, hc j _ (by rw [List.getElem?_map, List.getElem?_eq_getElem hj]; rfl)⟩
  have HBR : Hid (∀ w', Below w0.heap.size w0 w' → w'.heap[bl k]? = some (.cells #[.string (bL F k), .string (bN F k).p, .bool (bN F k).r, .int .i64 (bN F k).m, .string (bN F k).d, .slice sa sn sc] 67 (0, 0))) := fun w' hb => by
    have h3 := ((hT.below hb).blk k hkn).2
    rw [hvs] at h3
    exact h3
  have HBB : Hid (bl k < w0.heap.size) := hT.lt hkn
  have hnC : (bC F n k).length ≤ 40 := by have := bC_len F n k; omega
  unfold ndVal at HCP
  have HSN := hidT hsn
  generalize hbc : bC F n k = C at HIH HLL HSL HSN hnC ⊢
  generalize bN F k = p at HSZ HBR ⊢
  generalize bL F k = lb at HBR
  obtain ⟨bk, hbk⟩ : ∃ bk, bk = bl k := ⟨_, rfl⟩
  rw [← hbk] at HBR HBB ⊢
  obtain ⟨pa, pr, pm, pd⟩ := p
  simp only at HSZ HBR
  have hCI : (C.length : Int) ≤ 40 := by omega
  have HCN := hidT hnC
  obtain ⟨i0, hi, hz0, hz1, hz2⟩ := info_parts Tryd.infNdG
  obtain ⟨S, hSS⟩ : ∃ S : World → Prop, S = fun w' => w'.heap[bk]? = some (.cells #[.string lb, .string pa, .bool pr, .int .i64 pm, .string pd, .slice sa sn sc] 67 (0, 0)) := ⟨_, rfl⟩
  have HSS := hidT hSS
  have HX : Hid (∀ w', S w' → w'.cell? ⟨bk, 1, none⟩ = some (.string pa) ∧ w'.cell? ⟨bk, 2, none⟩ = some (.bool pr) ∧ w'.cell? ⟨bk, 3, none⟩ = some (.int .i64 pm) ∧ w'.cell? ⟨bk, 4, none⟩ = some (.string pd)) := fun w' h => by
    rw [hSS] at h
    exact ⟨cell_of_row _ _ 1 _ _ _ h, cell_of_row _ _ 2 _ _ _ h, cell_of_row _ _ 3 _ _ _ h, cell_of_row _ _ 4 _ _ _ h⟩
  have HSG : Hid (∀ w', Below w0.heap.size w0 w' → S w') := fun w' hb => by rw [hSS]; exact HBR.out w' hb
  have hSd : S wr.drew := HSG.out _ h.bel.drew
  have GD : Hid (GT w0 wr.drew nb gb v L) := h.call (Below.refl _ _).drew
  have hL9 : L.length ≤ 1000 := by omega
  clear hIH hT hF h hL hform hvs hsn hbk hSS hk1 hkn hn hbc hnC HGT
  go_enter Tryd.func44, Tryd.ntmps44
  go_wp2_with fail
  refine wp_region_held (S := S) (by kernel_rfl) ?_
  change wpAnyH _ _ _ _ _ _ _ _ (World.drew _)
  generalize wr.drew = X2 at hSd GD ⊢
  refine wpAnyH_take (i := 1) (v := .pointer (some ⟨bk, 0, none⟩)) rfl (by kernel_rfl) (by kernel_rfl) (by kernel_rfl) (fun _ _ _ h => h) (Or.inl ⟨by rfl, by intro w' hS'; go_simp <;> (first | omega | (rw [IntKind.wrap_i64]; omega) | (rw [IntKind.wrap_u64]; omega) | rfl)⟩) hSd ?_
  (try simp only [List.getElem_toArray, List.getElem_cons_succ, List.getElem_cons_zero, Act.put, List.setIfInBounds_toArray, List.set_cons_zero, List.set_cons_succ])
  refine wpAnyH_take (i := 2) (v := .pointer (some ⟨bk, 0, none⟩)) rfl (by kernel_rfl) (by kernel_rfl) (by kernel_rfl) (fun _ _ _ h => h) (Or.inl ⟨by rfl, by intro w' hS'; go_simp <;> (first | omega | (rw [IntKind.wrap_i64]; omega) | (rw [IntKind.wrap_u64]; omega) | rfl)⟩) hSd ?_
  (try simp only [List.getElem_toArray, List.getElem_cons_succ, List.getElem_cons_zero, Act.put, List.setIfInBounds_toArray, List.set_cons_zero, List.set_cons_succ])
  refine wpAnyH_take (i := 3) (v := .pointer (some ⟨bk, 1, none⟩)) rfl (by kernel_rfl) (by kernel_rfl) (by kernel_rfl) (fun _ _ _ h => h) (Or.inl ⟨by rfl, by intro w' hS'; go_simp <;> (first | omega | (rw [IntKind.wrap_i64]; omega) | (rw [IntKind.wrap_u64]; omega) | rfl)⟩) hSd ?_
  (try simp only [List.getElem_toArray, List.getElem_cons_succ, List.getElem_cons_zero, Act.put, List.setIfInBounds_toArray, List.set_cons_zero, List.set_cons_succ])
  refine wpAnyH_take (i := 4) (v := .agg #[.string pa, .bool pr, .int .i64 pm, .string pd]) rfl (by kernel_rfl) (by kernel_rfl) (by kernel_rfl) (fun _ _ _ h => h) (Or.inl ⟨by rfl, by intro w' hS'; obtain ⟨q1, q2, q3, q4⟩ := HX.out w' hS'; go_simp <;> (first | omega | (rw [IntKind.wrap_i64]; omega) | (rw [IntKind.wrap_u64]; omega) | rfl)⟩) hSd ?_
  (try simp only [List.getElem_toArray, List.getElem_cons_succ, List.getElem_cons_zero, Act.put, List.setIfInBounds_toArray, List.set_cons_zero, List.set_cons_succ])
  refine held_two (i := 0) (k := 5) (by kernel_rfl) rfl rfl (by rfl) (by rfl) ?_ ?_
  · have hbx := cell_of_row _ _ 0 _ _ _ GD.out.box
    go_simp
    refine ⟨HSG.out _ GD.out.bel, ?_⟩
    (try simp only [List.getElem_toArray, List.getElem_cons_succ, List.getElem_cons_zero, Act.put, List.setIfInBounds_toArray, List.set_cons_zero, List.set_cons_succ])
    refine held_stepS (i := 5) (by kernel_rfl) rfl (by rfl) ?_
    go_simp
    refine (HCP.out ⟨pa, pr, pm, pd⟩ _ HSZ.out).mono ?_
    rintro e w3 ⟨rfl, hb3⟩
    have G3 := hidT (GD.out.call hb3)
    clear hb3
    refine ⟨HSG.out _ G3.out.bel, ?_⟩
    (try simp only [List.getElem_toArray, List.getElem_cons_succ, List.getElem_cons_zero, Act.put, List.setIfInBounds_toArray, List.set_cons_zero, List.set_cons_succ])
    refine held_stepS (i := 6) (by kernel_rfl) rfl (by rfl) ?_
    go_simp
    have G4 : Hid (GT w0 (w3.alloc (.cells #[.string pa, .bool pr, .int .i64 pm, .string pd] 30)) nb gb v L) := G3.out.call ((Below.refl _ _).alloc (Nat.le_refl _) _)
    have hsz3 := G3.out.bel.size
    refine ⟨HSG.out _ G4.out.bel, ?_⟩
    (try simp only [List.getElem_toArray, List.getElem_cons_succ, List.getElem_cons_zero, Act.put, List.setIfInBounds_toArray, List.set_cons_zero, List.set_cons_succ])
    refine held_stepS (i := 7) (by kernel_rfl) rfl (by rfl) ?_
    refine wp_append_own _ _ _ 24 rfl w0.heap.size 30 i0 _ 4 48 Tryd.underlying24 hi hz0 hz1 hz2 rfl (by decide) v L.length (ndC L) rfl G4.out.own ⟨w3.heap.size, 0, none⟩ 1 1 [.string pa, .bool pr, .int .i64 pm, .string pd] rfl rfl (cell_fourG rfl) (four_nd _ _ _ _) (by unfold maxLen; omega) (by omega) (by rw [World.size_alloc]; omega) ?_
    intro v' w9 hown' hgrow _
    obtain ⟨gx, cx, curx, ev, _⟩ := own4_form hown' (by omega)
    subst ev
    obtain ⟨hG9, hb9⟩ := GT.app (p := ⟨pa, pr, pm, pd⟩) G4.out (by have h := hown'; rw [ndC_snoc L ⟨pa, pr, pm, pd⟩] at h; simpa only [List.length_append, List.length_singleton, List.length_cons, List.length_nil] using h) hgrow
    have hb90 := (G4.out.bel.grown hgrow G4.out.bel.size (fun k hk => (G4.out.own.lt k hk).1))
    have G9 := hidT hG9
    have c9 := cell_of_row _ _ 0 _ _ _ hb9
    have z9 := frozen_of_row w9 nb 0 _ _ hb9
    refine ⟨HSG.out _ hb90, ?_⟩
    (try simp only [List.getElem_toArray, List.getElem_cons_succ, List.getElem_cons_zero, Act.put, List.setIfInBounds_toArray, List.set_cons_zero, List.set_cons_succ])
    clear hown' hgrow hG9 G4 G3 hsz3 hb90 hb9
    refine held_stepS (i := 8) (by kernel_rfl) rfl (by rfl) ?_
    go_simp
    refine ⟨HSG.out _ G9.out.bel, ?_⟩
    (try simp only [List.getElem_toArray, List.getElem_cons_succ, List.getElem_cons_zero, Act.put, List.setIfInBounds_toArray, List.set_cons_zero, List.set_cons_succ])
    refine wpAnyH_done (by kernel_rfl) ?_ _
    generalize w9.setCell ⟨nb, 0, none⟩ (.slice (some ⟨gx, 0, none⟩) (L.length + 1) cx) = w8 at G9 ⊢
    clear hSd HX HSS HSG c9 z9
    have d5 : w8.cell? ⟨bk, 5, none⟩ = some (.slice sa sn sc) := cell_of_row _ _ 5 _ _ _ (HBR.out w8 G9.out.bel)
    obtain ⟨N, hN⟩ : ∃ N, N = C.length := ⟨_, rfl⟩
    obtain rfl : sn = N := by rw [HSN.out, hN]
    have hNI : (sn : Int) ≤ 40 := by omega
    have HN := hidT hN
    have HST : Hid (GT w0 w8 nb gb (.slice (some ⟨gx, 0, none⟩) (L.length + 1) cx) (L ++ ⟨pa, pr, pm, pd⟩ :: (C.take 0).flatMap G)) := by
      show GT _ _ _ _ _ _
      rw [List.take_zero]
      exact G9.out
    clear hN hCI GD
    go_wp2_with fail
    go_loopw [19] (fun x wq => ∃ (i : Nat) (u : Value), i ≤ sn ∧ x = .int .i64 (i : Int) ∧ Hid (GT w0 wq nb gb u (L ++ ⟨pa, pr, pm, pd⟩ :: (C.take i).flatMap G))) (fun x _ => sn - (trI x).toNat)
    case atStart => exact ⟨0, _, by omega, rfl, HST⟩
    case round =>
      clear HST G9 d5
      rename World => wq
      obtain ⟨i, u, hi2, rfl, GQ⟩ := hrel
      by_cases hlt : i < sn
      · have hltI : (i : Int) < (sn : Int) := by omega
        have hiC : i < C.length := by rw [← HN.out]; exact hlt
        obtain ⟨g, ea, y0⟩ := HSL.out wq GQ.out.bel i hiC
        subst ea
        have f0 := cell_of_row _ _ 0 _ _ _ GQ.out.fn
        have hle : (L ++ (⟨pa, pr, pm, pd⟩ : NdI) :: (C.take i).flatMap G).length + (G C[i]).length ≤ 1000 := by
          have e : (C.flatMap G).length = ((C.take (i + 1)).flatMap G).length + ((C.drop (i + 1)).flatMap G).length := by
            rw [← List.length_append, ← List.flatMap_append, List.take_append_drop]
          have e2 : (C.take (i + 1)).flatMap G = (C.take i).flatMap G ++ G C[i] := by
            rw [List.take_succ_eq_append_getElem hiC, List.flatMap_append]; simp
          rw [e2, List.length_append] at e
          have := HLL.out
          rw [List.length_append, List.length_cons]
          omega
        have HCALL := hidT (HIH.out C[i] (List.getElem_mem hiC) u _ wq GQ.out hle)
        have HNX : Hid ((L ++ (⟨pa, pr, pm, pd⟩ : NdI) :: (C.take i).flatMap G) ++ G C[i] = L ++ ⟨pa, pr, pm, pd⟩ :: (C.take (i + 1)).flatMap G) := by
          show _ = _
          rw [List.take_succ_eq_append_getElem hiC, List.flatMap_append]; simp
        have HLT := hidT hlt
        generalize bl C[i] = bc at y0 HCALL
        clear hle hlt
        go_wp2_with fail
        refine HCALL.out.mono ?_
        rintro e w2 ⟨rfl, u2, hg2⟩
        rw [HNX.out] at hg2
        have G2 := hidT hg2
        clear hg2 y0 f0 HCALL GQ
        go_wp2_with fail
        go_roundw
        case rel => exact ⟨i + 1, u2, by have := HLT.out; omega, by go_num, G2⟩
        case measure => simp [trI]; have := HLT.out; omega
      · obtain rfl : i = sn := by omega
        have HEQ : Hid (GT w0 wq nb gb u (L ++ ⟨pa, pr, pm, pd⟩ :: C.flatMap G)) := by
          have h := GQ.out
          rw [HN.out, List.take_length] at h
          exact h
        clear GQ
        go_wp2_with fail
        go_end0
        exact ⟨rfl, u, HEQ.out⟩
  · go_simp
    refine (HCP.out ⟨pa, pr, pm, pd⟩ _ HSZ.out).mono ?_
    rintro e w3 ⟨rfl, hb3⟩
    have G3 := hidT (GD.out.call hb3)
    clear hb3
    refine ⟨HSG.out _ G3.out.bel, ?_⟩
    (try simp only [List.getElem_toArray, List.getElem_cons_succ, List.getElem_cons_zero, Act.put, List.setIfInBounds_toArray, List.set_cons_zero, List.set_cons_succ])
    refine held_two (i := 0) (k := 6) (by kernel_rfl) rfl rfl (by rfl) (by rfl) ?_ ?_
    · have hbx := cell_of_row _ _ 0 _ _ _ G3.out.box
      go_simp
      refine ⟨HSG.out _ G3.out.bel, ?_⟩
      (try simp only [List.getElem_toArray, List.getElem_cons_succ, List.getElem_cons_zero, Act.put, List.setIfInBounds_toArray, List.set_cons_zero, List.set_cons_succ])
      refine held_stepS (i := 6) (by kernel_rfl) rfl (by rfl) ?_
      go_simp
      have G4 : Hid (GT w0 (w3.alloc (.cells #[.string pa, .bool pr, .int .i64 pm, .string pd] 30)) nb gb v L) := G3.out.call ((Below.refl _ _).alloc (Nat.le_refl _) _)
      have hsz3 := G3.out.bel.size
      refine ⟨HSG.out _ G4.out.bel, ?_⟩
      (try simp only [List.getElem_toArray, List.getElem_cons_succ, List.getElem_cons_zero, Act.put, List.setIfInBounds_toArray, List.set_cons_zero, List.set_cons_succ])
      refine held_stepS (i := 7) (by kernel_rfl) rfl (by rfl) ?_
      refine wp_append_own _ _ _ 24 rfl w0.heap.size 30 i0 _ 4 48 Tryd.underlying24 hi hz0 hz1 hz2 rfl (by decide) v L.length (ndC L) rfl G4.out.own ⟨w3.heap.size, 0, none⟩ 1 1 [.string pa, .bool pr, .int .i64 pm, .string pd] rfl rfl (cell_fourG rfl) (four_nd _ _ _ _) (by unfold maxLen; omega) (by omega) (by rw [World.size_alloc]; omega) ?_
      intro v' w9 hown' hgrow _
      obtain ⟨gx, cx, curx, ev, _⟩ := own4_form hown' (by omega)
      subst ev
      obtain ⟨hG9, hb9⟩ := GT.app (p := ⟨pa, pr, pm, pd⟩) G4.out (by have h := hown'; rw [ndC_snoc L ⟨pa, pr, pm, pd⟩] at h; simpa only [List.length_append, List.length_singleton, List.length_cons, List.length_nil] using h) hgrow
      have hb90 := (G4.out.bel.grown hgrow G4.out.bel.size (fun k hk => (G4.out.own.lt k hk).1))
      have G9 := hidT hG9
      have c9 := cell_of_row _ _ 0 _ _ _ hb9
      have z9 := frozen_of_row w9 nb 0 _ _ hb9
      refine ⟨HSG.out _ hb90, ?_⟩
      (try simp only [List.getElem_toArray, List.getElem_cons_succ, List.getElem_cons_zero, Act.put, List.setIfInBounds_toArray, List.set_cons_zero, List.set_cons_succ])
      clear hown' hgrow hG9 G4 G3 hsz3 hb90 hb9
      refine held_stepS (i := 8) (by kernel_rfl) rfl (by rfl) ?_
      go_simp
      refine ⟨HSG.out _ G9.out.bel, ?_⟩
      (try simp only [List.getElem_toArray, List.getElem_cons_succ, List.getElem_cons_zero, Act.put, List.setIfInBounds_toArray, List.set_cons_zero, List.set_cons_succ])
      refine wpAnyH_done (by kernel_rfl) ?_ _
      generalize w9.setCell ⟨nb, 0, none⟩ (.slice (some ⟨gx, 0, none⟩) (L.length + 1) cx) = w8 at G9 ⊢
      clear hSd HX HSS HSG c9 z9
      have d5 : w8.cell? ⟨bk, 5, none⟩ = some (.slice sa sn sc) := cell_of_row _ _ 5 _ _ _ (HBR.out w8 G9.out.bel)
      obtain ⟨N, hN⟩ : ∃ N, N = C.length := ⟨_, rfl⟩
      obtain rfl : sn = N := by rw [HSN.out, hN]
      have hNI : (sn : Int) ≤ 40 := by omega
      have HN := hidT hN
      have HST : Hid (GT w0 w8 nb gb (.slice (some ⟨gx, 0, none⟩) (L.length + 1) cx) (L ++ ⟨pa, pr, pm, pd⟩ :: (C.take 0).flatMap G)) := by
        show GT _ _ _ _ _ _
        rw [List.take_zero]
        exact G9.out
      clear hN hCI GD
      go_wp2_with fail
      go_loopw [19] (fun x wq => ∃ (i : Nat) (u : Value), i ≤ sn ∧ x = .int .i64 (i : Int) ∧ Hid (GT w0 wq nb gb u (L ++ ⟨pa, pr, pm, pd⟩ :: (C.take i).flatMap G))) (fun x _ => sn - (trI x).toNat)
      case atStart => exact ⟨0, _, by omega, rfl, HST⟩
      case round =>
        clear HST G9 d5
        rename World => wq
        obtain ⟨i, u, hi2, rfl, GQ⟩ := hrel
        by_cases hlt : i < sn
        · have hltI : (i : Int) < (sn : Int) := by omega
          have hiC : i < C.length := by rw [← HN.out]; exact hlt
          obtain ⟨g, ea, y0⟩ := HSL.out wq GQ.out.bel i hiC
          subst ea
          have f0 := cell_of_row _ _ 0 _ _ _ GQ.out.fn
          have hle : (L ++ (⟨pa, pr, pm, pd⟩ : NdI) :: (C.take i).flatMap G).length + (G C[i]).length ≤ 1000 := by
            have e : (C.flatMap G).length = ((C.take (i + 1)).flatMap G).length + ((C.drop (i + 1)).flatMap G).length := by
              rw [← List.length_append, ← List.flatMap_append, List.take_append_drop]
            have e2 : (C.take (i + 1)).flatMap G = (C.take i).flatMap G ++ G C[i] := by
              rw [List.take_succ_eq_append_getElem hiC, List.flatMap_append]; simp
            rw [e2, List.length_append] at e
            have := HLL.out
            rw [List.length_append, List.length_cons]
            omega
          have HCALL := hidT (HIH.out C[i] (List.getElem_mem hiC) u _ wq GQ.out hle)
          have HNX : Hid ((L ++ (⟨pa, pr, pm, pd⟩ : NdI) :: (C.take i).flatMap G) ++ G C[i] = L ++ ⟨pa, pr, pm, pd⟩ :: (C.take (i + 1)).flatMap G) := by
            show _ = _
            rw [List.take_succ_eq_append_getElem hiC, List.flatMap_append]; simp
          have HLT := hidT hlt
          generalize bl C[i] = bc at y0 HCALL
          clear hle hlt
          go_wp2_with fail
          refine HCALL.out.mono ?_
          rintro e w2 ⟨rfl, u2, hg2⟩
          rw [HNX.out] at hg2
          have G2 := hidT hg2
          clear hg2 y0 f0 HCALL GQ
          go_wp2_with fail
          go_roundw
          case rel => exact ⟨i + 1, u2, by have := HLT.out; omega, by go_num, G2⟩
          case measure => simp [trI]; have := HLT.out; omega
        · obtain rfl : i = sn := by omega
          have HEQ : Hid (GT w0 wq nb gb u (L ++ ⟨pa, pr, pm, pd⟩ :: C.flatMap G)) := by
            have h := GQ.out
            rw [HN.out, List.take_length] at h
            exact h
          clear GQ
          go_wp2_with fail
          go_end0
          exact ⟨rfl, u, HEQ.out⟩
    · go_simp
      have G4 : Hid (GT w0 (w3.alloc (.cells #[.string pa, .bool pr, .int .i64 pm, .string pd] 30)) nb gb v L) := G3.out.call ((Below.refl _ _).alloc (Nat.le_refl _) _)
      have hsz3 := G3.out.bel.size
      refine ⟨HSG.out _ G4.out.bel, ?_⟩
      (try simp only [List.getElem_toArray, List.getElem_cons_succ, List.getElem_cons_zero, Act.put, List.setIfInBounds_toArray, List.set_cons_zero, List.set_cons_succ])
      refine held_stepS (i := 0) (by kernel_rfl) rfl (by rfl) ?_
      have hbx := cell_of_row _ _ 0 _ _ _ G4.out.box
      go_simp
      refine ⟨HSG.out _ G4.out.bel, ?_⟩
      (try simp only [List.getElem_toArray, List.getElem_cons_succ, List.getElem_cons_zero, Act.put, List.setIfInBounds_toArray, List.set_cons_zero, List.set_cons_succ])
      refine held_stepS (i := 7) (by kernel_rfl) rfl (by rfl) ?_
      refine wp_append_own _ _ _ 24 rfl w0.heap.size 30 i0 _ 4 48 Tryd.underlying24 hi hz0 hz1 hz2 rfl (by decide) v L.length (ndC L) rfl G4.out.own ⟨w3.heap.size, 0, none⟩ 1 1 [.string pa, .bool pr, .int .i64 pm, .string pd] rfl rfl (cell_fourG rfl) (four_nd _ _ _ _) (by unfold maxLen; omega) (by omega) (by rw [World.size_alloc]; omega) ?_
      intro v' w9 hown' hgrow _
      obtain ⟨gx, cx, curx, ev, _⟩ := own4_form hown' (by omega)
      subst ev
      obtain ⟨hG9, hb9⟩ := GT.app (p := ⟨pa, pr, pm, pd⟩) G4.out (by have h := hown'; rw [ndC_snoc L ⟨pa, pr, pm, pd⟩] at h; simpa only [List.length_append, List.length_singleton, List.length_cons, List.length_nil] using h) hgrow
      have hb90 := (G4.out.bel.grown hgrow G4.out.bel.size (fun k hk => (G4.out.own.lt k hk).1))
      have G9 := hidT hG9
      have c9 := cell_of_row _ _ 0 _ _ _ hb9
      have z9 := frozen_of_row w9 nb 0 _ _ hb9
      refine ⟨HSG.out _ hb90, ?_⟩
      (try simp only [List.getElem_toArray, List.getElem_cons_succ, List.getElem_cons_zero, Act.put, List.setIfInBounds_toArray, List.set_cons_zero, List.set_cons_succ])
      clear hown' hgrow hG9 G4 G3 hsz3 hb90 hb9
      refine held_stepS (i := 8) (by kernel_rfl) rfl (by rfl) ?_
      go_simp
      refine ⟨HSG.out _ G9.out.bel, ?_⟩
      (try simp only [List.getElem_toArray, List.getElem_cons_succ, List.getElem_cons_zero, Act.put, List.setIfInBounds_toArray, List.set_cons_zero, List.set_cons_succ])
      refine wpAnyH_done (by kernel_rfl) ?_ _
      generalize w9.setCell ⟨nb, 0, none⟩ (.slice (some ⟨gx, 0, none⟩) (L.length + 1) cx) = w8 at G9 ⊢
      clear hSd HX HSS HSG c9 z9
      have d5 : w8.cell? ⟨bk, 5, none⟩ = some (.slice sa sn sc) := cell_of_row _ _ 5 _ _ _ (HBR.out w8 G9.out.bel)
      obtain ⟨N, hN⟩ : ∃ N, N = C.length := ⟨_, rfl⟩
      obtain rfl : sn = N := by rw [HSN.out, hN]
      have hNI : (sn : Int) ≤ 40 := by omega
      have HN := hidT hN
      have HST : Hid (GT w0 w8 nb gb (.slice (some ⟨gx, 0, none⟩) (L.length + 1) cx) (L ++ ⟨pa, pr, pm, pd⟩ :: (C.take 0).flatMap G)) := by
        show GT _ _ _ _ _ _
        rw [List.take_zero]
        exact G9.out
      clear hN hCI GD
      go_wp2_with fail
      go_loopw [19] (fun x wq => ∃ (i : Nat) (u : Value), i ≤ sn ∧ x = .int .i64 (i : Int) ∧ Hid (GT w0 wq nb gb u (L ++ ⟨pa, pr, pm, pd⟩ :: (C.take i).flatMap G))) (fun x _ => sn - (trI x).toNat)
      case atStart => exact ⟨0, _, by omega, rfl, HST⟩
      case round =>
        clear HST G9 d5
        rename World => wq
        obtain ⟨i, u, hi2, rfl, GQ⟩ := hrel
        by_cases hlt : i < sn
        · have hltI : (i : Int) < (sn : Int) := by omega
          have hiC : i < C.length := by rw [← HN.out]; exact hlt
          obtain ⟨g, ea, y0⟩ := HSL.out wq GQ.out.bel i hiC
          subst ea
          have f0 := cell_of_row _ _ 0 _ _ _ GQ.out.fn
          have hle : (L ++ (⟨pa, pr, pm, pd⟩ : NdI) :: (C.take i).flatMap G).length + (G C[i]).length ≤ 1000 := by
            have e : (C.flatMap G).length = ((C.take (i + 1)).flatMap G).length + ((C.drop (i + 1)).flatMap G).length := by
              rw [← List.length_append, ← List.flatMap_append, List.take_append_drop]
            have e2 : (C.take (i + 1)).flatMap G = (C.take i).flatMap G ++ G C[i] := by
              rw [List.take_succ_eq_append_getElem hiC, List.flatMap_append]; simp
            rw [e2, List.length_append] at e
            have := HLL.out
            rw [List.length_append, List.length_cons]
            omega
          have HCALL := hidT (HIH.out C[i] (List.getElem_mem hiC) u _ wq GQ.out hle)
          have HNX : Hid ((L ++ (⟨pa, pr, pm, pd⟩ : NdI) :: (C.take i).flatMap G) ++ G C[i] = L ++ ⟨pa, pr, pm, pd⟩ :: (C.take (i + 1)).flatMap G) := by
            show _ = _
            rw [List.take_succ_eq_append_getElem hiC, List.flatMap_append]; simp
          have HLT := hidT hlt
          generalize bl C[i] = bc at y0 HCALL
          clear hle hlt
          go_wp2_with fail
          refine HCALL.out.mono ?_
          rintro e w2 ⟨rfl, u2, hg2⟩
          rw [HNX.out] at hg2
          have G2 := hidT hg2
          clear hg2 y0 f0 HCALL GQ
          go_wp2_with fail
          go_roundw
          case rel => exact ⟨i + 1, u2, by have := HLT.out; omega, by go_num, G2⟩
          case measure => simp [trI]; have := HLT.out; omega
        · obtain rfl : i = sn := by omega
          have HEQ : Hid (GT w0 wq nb gb u (L ++ ⟨pa, pr, pm, pd⟩ :: C.flatMap G)) := by
            have h := GQ.out
            rw [HN.out, List.take_length] at h
            exact h
          clear GQ
          go_wp2_with fail
          go_end0
          exact ⟨rfl, u, HEQ.out⟩
theorem gather_any (F : Nat → NdI) (n : Nat) (bl : Nat → Nat) (vs : Nat → Value) (B nb gb : Nat) (w0 : World) (hF : NdLe F n) (hn : n ≤ 40) (hV : trV F n) (hT : TR w0 B F n bl vs) : ∀ (d k : Nat), 1 ≤ k → k ≤ n → 6 ≤ (bP F k).length + d → ∀ v L wr, GT w0 wr nb gb v L → L.length + (gth F n d k).length ≤ 1000 →
    Calls Tryd.prog 44 #[.pointer (some ⟨bl k, 0, none⟩), .pointer (some ⟨nb, 0, none⟩), .pointer (some ⟨gb, 0, none⟩)] wr fun e w' => e = .returned (.tuple #[]) ∧ ∃ v', GT w0 w' nb gb v' (L ++ (gth F n d k).map (bN F)) := by
  intro d
  induction d with
  | zero =>
    intro k hk1 hkn hd v L wr h hL
    have hc := bC_none hV (show 6 ≤ (bP F k).length by omega)
    have := gather_step F n bl vs B nb gb k w0 (fun _ => []) hF hn hT hk1 hkn (fun c hcm => by rw [hc] at hcm; cases hcm) v L wr h (by rw [hc]; have e : (gth F n 0 k).length = 1 := rfl; rw [e] at hL; simpa using hL)
    rw [hc] at this
    exact this
  | succ d ih =>
    intro k hk1 hkn hd v L wr h hL
    have e0 : gth F n (d + 1) k = k :: (bC F n k).flatMap (gth F n d) := rfl
    have e1 : (bC F n k).flatMap (fun c => (gth F n d c).map (bN F)) = ((bC F n k).flatMap (gth F n d)).map (bN F) := by rw [List.map_flatMap]
    rw [e0, List.length_cons] at hL
    have := gather_step F n bl vs B nb gb k w0 (fun c => (gth F n d c).map (bN F)) hF hn hT hk1 hkn (fun c hcm v L wr h hl => by
      obtain ⟨j, rfl, hj, _⟩ := bC_mem hcm
      obtain ⟨h1, h2⟩ := bC_deep hV hcm
      exact ih (j + 1) (by omega) h1 (by rw [h2, List.length_append]; simp; omega) v L wr h (by simpa using hl)) v L wr h (by rw [e1, List.length_map]; omega)
    rw [e1] at this
    exact this
end Go.Proofs.YtfegoldjejlcaaaDoor
