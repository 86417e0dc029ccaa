/-
  Several texts of this seat as one: CmL, CpP, Gl.
-/
import Derived.Test.YtpeddaljgmkomaaPk09
import Derived.Laws.AppendOwnNone
import Derived.Test.YtpeddaljgmkomaaPk03
import Derived.Test.YtpeddaljgmkomaaPk00

/-!   Pieces behind pieces; Compose as plain mathematics. -/
namespace Go.Proofs.Ytpeddaljgmkomaa
open Go.RowKit
set_option linter.unusedVariables false
set_option linter.unusedSimpArgs false
theorem pcC_app (L M : List PcI) : pcC L ++ pcC M = pcC (L ++ M) := by simp [pcC]
theorem pcC_one (L : List PcI) : ∀ u ∈ pcC L, u.oneCell' = true := by
  intro u hu
  obtain ⟨p, _, hp⟩ := List.mem_flatMap.1 hu
  exact three_one _ _ _ u hp
theorem own3_src {w : World} {C : Nat} {v : Value} {M : List PcI} (h : w.ownsRow C 89 3 v M.length (pcC M)) : (v = .slice none 0 0 ∧ M = []) ∨ ∃ ad c, v = .slice (some ad) M.length c ∧ ∀ (j : Nat) (u : Value), (pcC M)[j]? = some u → w.cell? (ad.add j) = some u := by
  obtain ⟨hl, ⟨h0, hn⟩ | ⟨g, cap, cur, h1, h2, h3, h4, h5, h6, h7⟩⟩ := h
  · exact Or.inl ⟨h0, List.eq_nil_of_length_eq_zero hn⟩
  · refine Or.inr ⟨_, _, h1, fun j u hj => ?_⟩
    have ea : (⟨g, 0, none⟩ : Addr).add j = ⟨g, j, none⟩ := by
      unfold Addr.add
      by_cases h0 : j = 0
      · subst h0; simp
      · simp [h0]
    rw [ea, cell_of_row w g j _ _ _ h3]
    rw [← h7, List.getElem?_take] at hj
    split at hj
    · simpa using hj
    · cases hj
theorem wp_append_pcs {P : Program} {w : World} {o : Oper} {a : Act} {K : Act → World → Prop} {Q : Exit → Act → World → Prop} (s x : Operand) (t : TypeId)
    (ho : o.op = .call { callee := .builtin .append, args := #[s, x], argTypes := #[t, t] })
    (base : Nat) (i : TypeInfo) (z : Value) (bytes : Nat) (ht : P.underlying t = some (.slice 89)) (hi : P.info? 89 = some i) (hz : i.zero = some z)
    (hsize : i.size = 3) (hby : i.bytes = bytes) (hzs : z.cells.size = 3)
    (v vx : Value) (L M : List PcI) (C : Nat) (hs : a.eval s = v) (hown : w.ownsRow base 89 3 v L.length (pcC L)) (hx : a.eval x = vx) (hsrc : w.ownsRow C 89 3 vx M.length (pcC M))
    (h63 : L.length + M.length ≤ maxLen) (hbytes : (L.length + M.length) * bytes ≤ 140737488355328) (hbase : base ≤ w.heap.size)
    (h : ∀ v' w', w'.ownsRow base 89 3 v' (L ++ M).length (pcC (L ++ M)) → w.grownBy w' v.ownBlock → K (a.put o.dst v') w') : o.wp P a w K Q := by
  rcases own3_src hsrc with ⟨he, rfl⟩ | ⟨ad, c, he, hc⟩
  · have hrun := run_append_owned_none (P := P) (w := w) base t o.type 89 i 3 ht hi v L.length (pcC L) hown
    have h2 := h v w (by rw [List.append_nil]; exact hown) (World.grownBy.refl _ _)
    unfold Oper.wp
    simp [execOp, ho, resolve, invoke, builtin, hs, hx, he, hrun, Result.andThen]
    exact h2
  · exact wp_append_own w s x t ho base 89 i z 3 bytes ht hi hz hsize hby hzs (by decide) v L.length (pcC L) hs hown ad M.length c (pcC M) (hx.trans he) ((pcC_len M).trans (Nat.mul_comm _ _)) hc (pcC_one M) h63 hbytes hbase
      (fun v' w' h1 h2 _ => h v' w' (by rw [← pcC_app, List.length_append]; exact h1) h2)
theorem wpList_append_pcs {P : Program} {w : World} {ops : Array Oper} {rest : List Oper} {o : Oper} {a : Act} {Q : Exit → Act → World → Prop} (hgd : o.guard = none) (s x : Operand) (t : TypeId)
    (ho : o.op = .call { callee := .builtin .append, args := #[s, x], argTypes := #[t, t] })
    (base : Nat) (i : TypeInfo) (z : Value) (bytes : Nat) (ht : P.underlying t = some (.slice 89)) (hi : P.info? 89 = some i) (hz : i.zero = some z)
    (hsize : i.size = 3) (hby : i.bytes = bytes) (hzs : z.cells.size = 3)
    (v vx : Value) (L M : List PcI) (C : Nat) (hs : a.eval s = v) (hown : w.ownsRow base 89 3 v L.length (pcC L)) (hx : a.eval x = vx) (hsrc : w.ownsRow C 89 3 vx M.length (pcC M))
    (h63 : L.length + M.length ≤ maxLen) (hbytes : (L.length + M.length) * bytes ≤ 140737488355328) (hbase : base ≤ w.heap.size)
    (h : ∀ v' w', w'.ownsRow base 89 3 v' (L ++ M).length (pcC (L ++ M)) → w.grownBy w' v.ownBlock → wpList P ops Q rest (a.put o.dst v') w') : wpList P ops Q (o :: rest) a w :=
  wpList_plain hgd fun _ hK => wp_append_pcs s x t ho base i z bytes ht hi hz hsize hby hzs v vx L M C hs hown hx hsrc h63 hbytes hbase fun v' w' h1 h2 => hK _ _ (h v' w' h1 h2)
theorem own3_made1 (W : World) (B : Nat) (p : PcI) (hB : B ≤ W.heap.size) : (W.alloc (.cells #[.int .i64 p.f, .int .i64 p.l, .string p.d] 89)).ownsRow B 89 3 (.slice (some ⟨W.heap.size, 0, none⟩) 1 1) [p].length (pcC [p]) :=
  ⟨rfl, .inr ⟨W.heap.size, 1, _, rfl, hB, heap_alloc_new W _, Nat.le_refl _, by unfold maxLen; decide, rfl, rfl⟩⟩
/-- the pieces that two deltas are together -/
noncomputable def stepC (Fa : Nat → PcI) (na : Nat) (p : PcI) : List PcI := open Classical in if p.d = ⟨#[]⟩ then prtL Fa p.f (p.f + p.l) na else [p]
theorem stepC_no {Fa : Nat → PcI} {na : Nat} {p : PcI} (h : p.d = ⟨#[]⟩) : stepC Fa na p = prtL Fa p.f (p.f + p.l) na := by unfold stepC; rw [if_pos h]
theorem stepC_yes {Fa : Nat → PcI} {na : Nat} {p : PcI} (h : p.d ≠ ⟨#[]⟩) : stepC Fa na p = [p] := by unfold stepC; rw [if_neg h]
noncomputable def cmL (Fa : Nat → PcI) (na : Nat) (Fb : Nat → PcI) : Nat → List PcI
  | 0 => []
  | j + 1 => cmL Fa na Fb j ++ stepC Fa na (Fb j)
theorem cmL_mono (Fa : Nat → PcI) (na : Nat) (Fb : Nat → PcI) {i j : Nat} (h : i ≤ j) : (cmL Fa na Fb i).length ≤ (cmL Fa na Fb j).length := by
  induction j with
  | zero =>
    obtain rfl : i = 0 := by omega
    exact Nat.le_refl _
  | succ j ih =>
    by_cases e : i = j + 1
    · subst e; exact Nat.le_refl _
    · have := ih (by omega)
      show _ ≤ (cmL Fa na Fb j ++ stepC Fa na (Fb j)).length
      rw [List.length_append]; omega
theorem stepC_len (Fa : Nat → PcI) (na : Nat) (p : PcI) : (stepC Fa na p).length ≤ na + 1 := by
  by_cases h : p.d = ⟨#[]⟩
  · rw [stepC_no h]; have := prtL_len Fa p.f (p.f + p.l) na; omega
  · rw [stepC_yes h]; simp
theorem cmL_len (Fa : Nat → PcI) (na : Nat) (Fb : Nat → PcI) (hn : na ≤ 500) (j : Nat) : (cmL Fa na Fb j).length ≤ j * 501 := by
  induction j with
  | zero => exact Nat.le_refl 0
  | succ j ih =>
    have := stepC_len Fa na (Fb j)
    show (cmL Fa na Fb j ++ stepC Fa na (Fb j)).length ≤ _
    rw [List.length_append]; omega
def cmP (Fa : Nat → PcI) (na : Nat) (Fb : Nat → PcI) (nb : Nat) : Prop := (pcR Fa na 4000 ∧ pcR Fb nb (pcSum Fa na)) ∧ (cmL Fa na Fb nb).length ≤ 500
noncomputable def cmR (Fa : Nat → PcI) (na : Nat) (Fb : Nat → PcI) (nb : Nat) : Option (List PcI) := open Classical in if cmP Fa na Fb nb then some (cmL Fa na Fb nb) else none
theorem cmR_yes {Fa : Nat → PcI} {na : Nat} {Fb : Nat → PcI} {nb : Nat} (h : cmP Fa na Fb nb) : cmR Fa na Fb nb = some (cmL Fa na Fb nb) := by unfold cmR; rw [if_pos h]
theorem cmR_no {Fa : Nat → PcI} {na : Nat} {Fb : Nat → PcI} {nb : Nat} (h : ¬ cmP Fa na Fb nb) : cmR Fa na Fb nb = none := by unfold cmR; rw [if_neg h]
/-- what a part is asked of, where all is right -/
theorem prtIn_of {Fa : Nat → PcI} {na : Nat} {Fb : Nat → PcI} {nb j : Nat} (ha : pcR Fa na 4000) (hb : pcR Fb nb (pcSum Fa na)) (hF : PcLe Fa na) (hj : j < nb) (hd : (Fb j).d = ⟨#[]⟩) : PrtIn Fa na (Fb j).f ((Fb j).f + (Fb j).l) := by
  have h1 := ha.2.2.2.2
  rcases hb.2.2.2.1 j hj with ⟨_, c1, c2, c3, c4⟩ | ⟨c, _⟩
  · exact ⟨ha.2.2.1, ha.2.2.2.1, hF.d, h1, c3, by omega, by omega⟩
  · exact absurd hd c
end Go.Proofs.Ytpeddaljgmkomaa

/-!   Pieces copied: the code's. -/
namespace Go.Proofs.Ytpeddaljgmkomaa
open Go.RowKit
set_option linter.unusedVariables false
set_option linter.unusedSimpArgs false
/-- pieces that some text lets in -/
def PcG (p : PcI) : Prop := pcP p 4000 ∧ p.d.size ≤ 1048576
theorem partI_all {p : PcI} (h : pcP p 4000) : partI p 0 (pcSz p) = p := by
  obtain ⟨f, l, d⟩ := p
  rcases h with ⟨h, _⟩ | ⟨h, h1, h2⟩
  · simp only at h
    subst h
    rw [partI_no rfl, pcSz_no rfl]
    simp
  · simp only at h h1 h2
    subst h1 h2
    rw [partI_yes h, pcSz_yes h]
    show (⟨0, 0, d.extract 0 d.size⟩ : PcI) = _
    rw [ByteArray.extract_zero_size]
theorem pcF_one {L : List PcI} {i : Nat} (h : i < L.length) : L.take (i + 1) = L.take i ++ [pcF L i] := by
  rw [List.take_add_one, pc_some h]; rfl
set_option maxRecDepth 100000 in
set_option maxHeartbeats 4000000 in
theorem cpPc_some (g c n : Nat) (L : List PcI) (hLn : n = L.length) (w : World) (hn : n ≤ 500) (hG : ∀ p ∈ L, PcG p) (hrow0 : PcRow w g n (pcF L)) :
    Calls Try.prog 75 #[.slice (some ⟨g, 0, none⟩) n c] w fun e w' => (∃ v, e = .returned v ∧ w'.ownsRow w.heap.size 89 3 v n (pcC L)) ∧ Below w.heap.size w w' := by
  have hnI : (n : Int) ≤ 500 := by omega
  obtain ⟨i0, hi0, hz0, hz1, hz2⟩ := info_parts Try.infP
  have HX : Hid (n = L.length ∧ (∀ p ∈ L, PcG p) ∧ PcRow w g n (pcF L)) := ⟨hLn, hG, hrow0⟩
  clear hLn hG hrow0
  go_enter Try.func75, Try.ntmps75
  go_wp2_with fail
  go_loopw [3, 8] (fun v x wr => ∃ (i : Nat), i ≤ n ∧ x = .int .i64 (i : Int) ∧ Hid (wr.ownsRow w.heap.size 89 3 v (L.take i).length (pcC (L.take i)) ∧ Below w.heap.size w wr)) (fun _ x _ => n - (intN x).toNat)
  case atStart => exact ⟨0, by omega, rfl, World.ownsRow_nil _ _ _ _, Below.refl _ _⟩
  case round =>
    obtain ⟨i, hi, rfl, HO⟩ := hrel
    by_cases hlt : i < n
    · have hltI : (i : Int) < (n : Int) := by omega
      have hrow := HX.out.2.2.below HO.out.2 HX.out.2.2.lt
      obtain ⟨q, hq⟩ : ∃ q, q = 3 * i := ⟨_, rfl⟩
      have x0 := hrow.c0 i hlt
      have x1 := hrow.c1 i hlt
      have x2 := hrow.c2 i hlt
      rw [← hq] at x0 x1 x2
      have hiq : i * 3 = q := by omega
      have hil : i < L.length := by have := HX.out.1; omega
      have hg0 := HX.out.2.1 _ (List.mem_of_getElem? (pc_some hil))
      have hstp := pcF_one hil
      have hlen : (L.take i).length = i := by rw [List.length_take]; omega
      generalize pcF L i = p at x0 x1 x2 hg0 hstp
      have b2 := pcP_pos hg0.1
      have b3 := pcP_le hg0.1 (by omega) hg0.2
      have hfb : 0 ≤ p.f ∧ p.f ≤ 4000 := by rcases hg0.1 with ⟨_, c1, c2, c3, c4⟩ | ⟨_, c1, c2⟩ <;> omega
      have HSZ0 : Hid (∀ w, Calls Try.prog 83 #[pcV p.f p.l p.d] w fun e w' => e = .returned (.int .i64 (pcSz p)) ∧ Below w.heap.size w w') := fun w => size_any p w
      have HPT0 : Hid (∀ w, Calls Try.prog 82 #[pcV p.f p.l p.d, .int .i64 0, .int .i64 (pcSz p)] w fun e w' => e = .returned (pcV p.f p.l p.d) ∧ Below w.heap.size w w') := fun w => by
        have h := part_any p 0 (pcSz p) w (by omega) (by omega) (by omega) b3 hfb
        rw [partI_all hg0.1] at h
        exact h
      unfold pcV at HSZ0 HPT0
      generalize pcSz p = Y at HSZ0 HPT0
      have HSTP : Hid (L.take (i + 1) = L.take i ++ [p]) := hstp
      have HLEN : Hid ((L.take i).length = i) := hlen
      clear hrow hq hg0 hstp b2 b3 hfb hlen hil
      obtain ⟨f, l, d⟩ := p
      simp only at x0 x1 x2 HSZ0 HPT0
      obtain ⟨M, hM⟩ : ∃ M, M = L.take i := ⟨_, rfl⟩
      rw [← hM] at HO HSTP HLEN
      have HM := dhid hM
      clear hM
      obtain ⟨va0, vc0, rfl⟩ := own3_slice HO.out.1
      have HNB := dhid (own3_ne HO.out.1 (Nat.le_refl _))
      have HB0 := dhid (HO.out.2.alloc HO.out.2.size (.cells #[.int .i64 f, .int .i64 l, .string d] 89))
      obtain ⟨S, hSS⟩ : ∃ S : World → Prop, S = fun w' => w'.heap[wr.heap.size]? = some (.cells #[.int .i64 f, .int .i64 l, .string d] 89 (0, 0)) := ⟨_, rfl⟩
      have HS := dhid hSS
      have hSd : S (wr.alloc (.cells #[.int .i64 f, .int .i64 l, .string d] 89)).drew := by rw [hSS]; exact heap_alloc_new wr (.cells #[.int .i64 f, .int .i64 l, .string d] 89)
      have HSC : Hid (∀ a b, S a → Below a.heap.size a b → S b) := fun a b h1 h2 => by
        rw [hSS] at h1 ⊢
        exact (h2.block _ (Array.getElem?_eq_some_iff.1 h1).1).trans h1
      have HRG : Hid (∀ w', S w' → w'.rangeAt wr.heap.size 0 [.int .i64 f, .int .i64 l, .string d]) := fun w' hw' k u hk => by
        rw [hSS] at hw'
        rw [Nat.zero_add, cell_of_row _ _ k _ _ _ hw']
        simpa using hk
      have HOd : Hid ((wr.alloc (.cells #[.int .i64 f, .int .i64 l, .string d] 89)).drew.ownsRow w.heap.size 89 3 (.slice va0 M.length vc0) M.length (pcC M)) := World.ownsRow.alloc HO.out.1 (.cells #[.int .i64 f, .int .i64 l, .string d] 89)
      have HBd := dhid HB0.out.drew
      clear hSS HO HB0
      go_wp2_with fail
      refine wp_region_held (S := S) (by kernel_rfl) ?_
      change wpAnyH _ _ _ _ _ _ _ _ (World.drew _)
      refine wpAnyH_take (i := 0) (v := .slice va0 M.length vc0) rfl (by kernel_rfl) (by kernel_rfl) (by kernel_rfl) (fun _ _ _ h => h) (Or.inl ⟨by rfl, by intro w' hS'; go_simp <;> (first | omega | (rw [IntKind.wrap_i64]; omega) | (rw [IntKind.wrap_u64]; omega) | (rw [IntKind.wrap_u32]; omega) | (rw [Int.tmod_eq_emod_of_nonneg (by omega)]))⟩) hSd ?_
      (try simp only [List.getElem_toArray, List.getElem_cons_succ, List.getElem_cons_zero, Act.put, List.setIfInBounds_toArray, List.set_cons_zero, List.set_cons_succ])
      refine wpAnyH_take (i := 1) (v := .agg #[.int .i64 f, .int .i64 l, .string d]) rfl (by kernel_rfl) (by kernel_rfl) (by kernel_rfl) (fun _ _ _ h => h) (yieldsIf_load_mid (by rfl) 89 (.tmp 5) rfl wr.heap.size 0 rfl [.int .i64 f, .int .i64 l, .string d] _ HRG.out Try.underlying89 rfl (by kernel_rfl)) hSd ?_
      (try simp only [List.getElem_toArray, List.getElem_cons_succ, List.getElem_cons_zero, Act.put, List.setIfInBounds_toArray, List.set_cons_zero, List.set_cons_succ])
      refine wpAnyH_take (i := 2) (v := .agg #[.int .i64 f, .int .i64 l, .string d]) rfl (by kernel_rfl) (by kernel_rfl) (by kernel_rfl) (fun _ _ _ h => h) (yieldsIf_load_mid (by rfl) 89 (.tmp 5) rfl wr.heap.size 0 rfl [.int .i64 f, .int .i64 l, .string d] _ HRG.out Try.underlying89 rfl (by kernel_rfl)) hSd ?_
      (try simp only [List.getElem_toArray, List.getElem_cons_succ, List.getElem_cons_zero, Act.put, List.setIfInBounds_toArray, List.set_cons_zero, List.set_cons_succ])
      refine held_stepS (i := 3) (by kernel_rfl) rfl (by rfl) ?_
      go_simp
      refine (HSZ0.out _).mono ?_
      rintro e w3 ⟨rfl, hb⟩
      have HO3 := dhid (own3_call HOd.out hb)
      have HB3 := dhid (dblow HBd.out hb HBd.out.size)
      have hS3 : S w3 := HSC.out _ _ hSd hb
      clear hb
      refine ⟨hS3, ?_⟩
      (try simp only [List.getElem_toArray, List.getElem_cons_succ, List.getElem_cons_zero, Act.put, List.setIfInBounds_toArray, List.set_cons_zero, List.set_cons_succ])
      refine held_stepS (i := 4) (by kernel_rfl) rfl (by rfl) ?_
      go_simp
      refine (HPT0.out _).mono ?_
      rintro e w4 ⟨rfl, hb⟩
      have HO4 := dhid (own3_call HO3.out hb)
      have HB4 := dhid (dblow HB3.out hb HB3.out.size)
      have hS4 : S w4 := HSC.out _ _ hS3 hb
      clear hb
      refine ⟨hS4, ?_⟩
      (try simp only [List.getElem_toArray, List.getElem_cons_succ, List.getElem_cons_zero, Act.put, List.setIfInBounds_toArray, List.set_cons_zero, List.set_cons_succ])
      have hS5 : S (w4.alloc (.cells #[.int .i64 f, .int .i64 l, .string d] 89)) := HSC.out _ _ hS4 ((Below.refl _ _).alloc (Nat.le_refl _) _)
      refine held_stepS (i := 5) (by kernel_rfl) rfl (by rfl) ?_
      go_simp
      refine ⟨hS5, ?_⟩
      (try simp only [List.getElem_toArray, List.getElem_cons_succ, List.getElem_cons_zero, Act.put, List.setIfInBounds_toArray, List.set_cons_zero, List.set_cons_succ])
      refine held_stepS (i := 6) (by kernel_rfl) rfl (by rfl) ?_
      have hln := HLEN.out
      have HO5 := dhid (World.ownsRow.alloc HO4.out (.cells #[.int .i64 f, .int .i64 l, .string d] 89))
      have HB5 := dhid (HB4.out.alloc HB4.out.size (.cells #[.int .i64 f, .int .i64 l, .string d] 89))
      refine wp_append_pcs (.tmp 12) (.tmp 17) 52 rfl w.heap.size i0 _ 32 Try.underlying52 hi0 hz0 hz1 hz2 rfl _ (.slice (some ⟨w4.heap.size, 0, none⟩) 1 1) M [PcI.mk f l d] w.heap.size rfl HO5.out rfl (own3_made1 w4 _ ⟨f, l, d⟩ HB4.out.size) (by show _ + 1 ≤ _; unfold maxLen; omega) (by show (_ + 1) * 32 ≤ _; omega) HB5.out.size ?_
      intro v' w7 ho7 hg7
      have HB7 := dhid (HB5.out.grown hg7 HB5.out.size (fun k hk => (HO5.out.lt k hk).1))
      have HO7 : Hid (w7.ownsRow w.heap.size 89 3 v' (L.take (i + 1)).length (pcC (L.take (i + 1)))) := by
        show World.ownsRow _ _ _ _ _ _ _
        rw [HSTP.out]; exact ho7
      have hS7 : S w7 := by
        rw [HS.out] at hS5 ⊢
        exact (hg7.block _ (Array.getElem?_eq_some_iff.1 hS5).1 (fun e => HNB.out e.symm)).trans hS5
      refine ⟨hS7, ?_⟩
      (try simp only [List.getElem_toArray, List.getElem_cons_succ, List.getElem_cons_zero, Act.put, List.setIfInBounds_toArray, List.set_cons_zero, List.set_cons_succ])
      refine wpAnyH_take (i := 7) (v := v') rfl (by kernel_rfl) (by kernel_rfl) (by kernel_rfl) (fun _ _ _ h => h) (Or.inl ⟨by rfl, by intro w' hS'; go_simp <;> (first | omega | (rw [IntKind.wrap_i64]; omega) | (rw [IntKind.wrap_u64]; omega) | (rw [IntKind.wrap_u32]; omega) | (rw [Int.tmod_eq_emod_of_nonneg (by omega)]))⟩) hS7 ?_
      (try simp only [List.getElem_toArray, List.getElem_cons_succ, List.getElem_cons_zero, Act.put, List.setIfInBounds_toArray, List.set_cons_zero, List.set_cons_succ])
      refine wpAnyH_done (by kernel_rfl) ?_ _
      have HNEW : Hid (w7.ownsRow w.heap.size 89 3 v' (L.take (i + 1)).length (pcC (L.take (i + 1))) ∧ Below w.heap.size w w7) := ⟨HO7.out, HB7.out⟩
      clear ho7 hg7 hS7 hS5 hS4 hS3 hSd HO5 HB5 HO4 HB4 HO3 HB3 HOd HBd HSC HS HRG HSTP HSZ0 HPT0 HO7 HB7
      go_wp2_with fail
      go_roundw
      case rel => exact ⟨i + 1, by omega, by go_num, HNEW⟩
      case measure => simp [intN]; omega
    · obtain rfl : i = n := by omega
      have hT : L.take i = L := List.take_of_length_le (by have := HX.out.1; omega)
      have HOO := HO.out
      rw [hT, ← HX.out.1] at HOO
      have HO9 := dhid HOO
      clear hT HOO HO
      go_wp2_with fail
      go_ret
      exact ⟨⟨_, rfl, HO9.out.1⟩, HO9.out.2⟩
set_option maxRecDepth 100000 in
theorem cpPc_zero (a : Option Addr) (c : Nat) (w : World) :
    Calls Try.prog 75 #[.slice a 0 c] w fun e w' => e = .returned (.slice none 0 0) ∧ w' = w := by
  go_enter Try.func75, Try.ntmps75
  go_wp2_with fail
  refine wp_loop_rounds 1 ?_
  rw [rounds_succ]
  go_wp2_with fail
  go_ret
  exact ⟨rfl, rfl⟩
theorem cpPc_deep (v : Value) (L : List PcI) (bs : List Nat) (w : World) (hn : L.length ≤ 500) (hG : ∀ p ∈ L, PcG p) (h : Hd w (pcsD L) v bs) :
    Calls Try.prog 75 #[v] w fun e w' => (∃ v', e = .returned v' ∧ Own w' w.heap.size (pcsD L) v') ∧ Below w.heap.size w w' := by
  obtain ⟨a, c, rfl, hx⟩ := pcs_arg h
  by_cases h0 : 0 < L.length
  · obtain ⟨g, rfl, hg⟩ := hx h0
    refine (cpPc_some g c L.length L rfl w hn hG hg).mono ?_
    rintro e w' ⟨⟨v', rfl, ho⟩, hb⟩
    exact ⟨⟨v', rfl, pcs_own ho⟩, hb⟩
  · have e0 : L = [] := List.length_eq_zero_iff.1 (by omega)
    subst e0
    refine (cpPc_zero a c w).mono ?_
    rintro e w' ⟨rfl, rfl⟩
    exact ⟨⟨_, rfl, [], .nil _ _ _ _, List.nodup_nil, fun b hb => by cases hb⟩, Below.refl _ _⟩
end Go.Proofs.Ytpeddaljgmkomaa

/-!   A list that grows by append, with what its cells lead to. -/
namespace Go.Proofs.Ytpeddaljgmkomaa
open Go.RowKit
set_option linter.unusedVariables false
set_option linter.unusedSimpArgs false
/-- the element types of all rows of a deep value -/
inductive Tys (T : Nat → Prop) : Dd → Prop
  | one (v : Value) : Tys T (.one v)
  | list (e k : Nat) (ds : List Dd) (he : T e) (h : ∀ (j : Nat) x, ds[j]? = some x → Tys T x) : Tys T (.list e k ds)
theorem Hd.ty {w : World} {d : Dd} {v : Value} {bs : List Nat} {T : Nat → Prop} (h : Hd w d v bs) (ht : Tys T d) : ∀ b ∈ bs, ∃ cur e, w.heap[b]? = some (.cells cur e (0, 0)) ∧ T e := by
  induction h with
  | one v => intro b hb; cases hb
  | nil e k a c => intro b hb; cases hb
  | list e k n c g ds cur val fb hn hl hr hs hc hd ih =>
    cases ht with
    | list _ _ _ he h =>
      intro b hb
      rcases List.mem_cons.1 hb with rfl | hb
      · exact ⟨_, _, hr, he⟩
      · obtain ⟨j, hj, hb⟩ := List.mem_flatMap.1 hb
        have hx := List.getElem?_eq_getElem (List.mem_range.1 hj)
        exact ih j _ hx (h j _ hx) b hb
theorem Ns.ty {w : World} {us : List Value} {ds : List Dd} {bs : List Nat} {T : Nat → Prop} (h : Ns w us ds bs) (ht : ∀ d ∈ ds, Tys T d) : ∀ b ∈ bs, ∃ cur e, w.heap[b]? = some (.cells cur e (0, 0)) ∧ T e := by
  induction h with
  | nil => intro b hb; cases hb
  | @cons u us d ds b bs h t ih =>
    intro x hx
    rcases List.mem_append.1 hx with hx | hx
    · exact h.ty (ht d (by simp)) x hx
    · exact ih (fun d hd => ht d (List.mem_cons_of_mem _ hd)) x hx
structure Gl (w : World) (lo e k : Nat) (T : Nat → Prop) (v : Value) (n : Nat) (us : List Value) (ds : List Dd) : Prop where
  row : w.ownsRow lo e k v n us
  nst : Nst w lo us ds
  ty : ∀ d ∈ ds, Tys T d
  ne : ¬ T e
theorem Gl.nil (w : World) (lo e k : Nat) {T : Nat → Prop} (h : ¬ T e) : Gl w lo e k T (.slice none 0 0) 0 [] [] :=
  ⟨World.ownsRow_nil _ _ _ _, Nst.nil _ _, fun d hd => (by cases hd), h⟩
theorem Gl.apart {w : World} {lo e k n : Nat} {T : Nat → Prop} {v : Value} {us : List Value} {ds : List Dd} (h : Gl w lo e k T v n us ds) {bs : List Nat} (hb : ∀ b ∈ bs, ∃ cur e, w.heap[b]? = some (.cells cur e (0, 0)) ∧ T e) : ∀ g, v.ownBlock = some g → g ∉ bs := by
  intro g hg hm
  obtain ⟨cur, e', h1, h2⟩ := hb g hm
  obtain ⟨_, ⟨h0, _⟩ | ⟨g0, cap, cur0, k1, k2, k3, _⟩⟩ := h.row
  · subst h0; cases hg
  · subst k1
    have e0 : g0 = g := Option.some.inj hg
    subst e0
    rw [k3] at h1
    injection h1 with h1
    injection h1 with _ h1 _
    subst h1
    exact h.ne h2
theorem Gl.own {w : World} {lo e k n : Nat} {T : Nat → Prop} {v : Value} {us : List Value} {ds : List Dd} (h : Gl w lo e k T v n us ds) (hk : 0 < k) (hl : ds.length = k * n) : Own w lo (.list e k ds) v := by
  obtain ⟨bs, h1, h2, h3⟩ := h.nst
  exact Own.of_row h.row hk h1 hl h2 h3 (h.apart (h1.ty h.ty))
theorem Gl.call {w w' : World} {lo e k n : Nat} {T : Nat → Prop} {v : Value} {us : List Value} {ds : List Dd} (h : Gl w lo e k T v n us ds) (hb : Below w.heap.size w w') : Gl w' lo e k T v n us ds :=
  ⟨owns_call h.row hb, h.nst.under hb, h.ty, h.ne⟩
theorem Gl.grow {w W w' : World} {lo e k n m : Nat} {T : Nat → Prop} {v v' : Value} {us us' : List Value} {ds ds' : List Dd} (h : Gl w lo e k T v n us ds) (hb : Below w.heap.size w W) (hlo : lo ≤ w.heap.size) (new : Nst W w.heap.size us' ds') (ht : ∀ d ∈ ds', Tys T d)
    (row : w'.ownsRow lo e k v' (n + m) (us ++ us')) (hg : W.grownBy w' v.ownBlock) : Gl w' lo e k T v' (n + m) (us ++ us') (ds ++ ds') := by
  have hN := h.nst.app hb new hlo
  have hall : ∀ d ∈ ds ++ ds', Tys T d := fun d hd => by
    rcases List.mem_append.1 hd with hd | hd
    · exact h.ty d hd
    · exact ht d hd
  obtain ⟨bs, h1, h2, h3⟩ := hN
  have hty := h1.ty hall
  have hap := (h.call hb).apart hty
  exact ⟨row, ⟨bs, h1.keep fun b hb' => hg.block b (h1.lt b hb') (fun c => hap b c.symm hb'), h2, h3⟩, hall, h.ne⟩
end Go.Proofs.Ytpeddaljgmkomaa
