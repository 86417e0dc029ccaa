/-
  A set of files: a deed is done: bytes behind a file's own.
-/
import Derived.Test.YtanlggglbpibfaaFsD
namespace Go.Proofs.Ytanlggglbpibfaa
open Go.RowKit
open Go.Maps (Keyed)
set_option linter.unusedVariables false
set_option linter.unusedSimpArgs false
theorem wp_append_str {P : Program} {o : Oper} {a : Act} {w w' : World} {K : Act → World → Prop} {Q : Exit → Act → World → Prop} (s x : Operand) (t u : TypeId)
    (ho : o.op = .call { callee := .builtin .append, args := #[s, x], argTypes := #[t, u] }) (v y r : Value) (hs : a.eval s = v) (hx : a.eval x = y)
    (hr : (Builtin.append_ #[t, u] o.type #[v, y]).run P w = .ok r w') (h : K (a.put o.dst r) w') : Oper.wp P o a w K Q := by
  unfold Oper.wp execOp
  simp only [ho, resolve, invoke, builtin, Sem.run_bind, Sem.run_pure, Result.andThen_ok, List.map_toArray, List.map_cons, List.map_nil, hs, hx, hr]
  exact h
theorem asAA (v : Value) (W : World) : (Instr.typeAssert (.iface 119 v) 81 119 true).run Try.prog W = .ok (.tuple #[v, .bool true]) W := by kernel_rfl
theorem asRA (v : Value) (W : World) : (Instr.typeAssert (.iface 121 v) 81 119 true).run Try.prog W = .ok (.tuple #[.agg #[.string ⟨#[]⟩, .string ⟨#[]⟩], .bool false]) W := by kernel_rfl
theorem asRR (v : Value) (W : World) : (Instr.typeAssert (.iface 121 v) 81 121 true).run Try.prog W = .ok (.tuple #[v, .bool true]) W := by kernel_rfl
theorem asMA (v : Value) (W : World) : (Instr.typeAssert (.iface 123 v) 81 119 true).run Try.prog W = .ok (.tuple #[.agg #[.string ⟨#[]⟩, .string ⟨#[]⟩], .bool false]) W := by kernel_rfl
theorem asMR (v : Value) (W : World) : (Instr.typeAssert (.iface 123 v) 81 121 true).run Try.prog W = .ok (.tuple #[.agg #[.string ⟨#[]⟩, .string ⟨#[]⟩], .bool false]) W := by kernel_rfl
theorem asMM (v : Value) (W : World) : (Instr.typeAssert (.iface 123 v) 81 123 true).run Try.prog W = .ok (.tuple #[v, .bool true]) W := by kernel_rfl
/-- what a file's bytes are, or none -/
def oldB (L : List FlI) (s : ByteArray) : ByteArray := (fdF L s).getD ⟨#[]⟩
theorem FsW.old {W : World} {lo p mb : Nat} {L : List FlI} {V : ByteArray → Value} {n : Nat} (h : FsW W lo p mb L V n) {s : ByteArray} (hs : s.size ≤ 1500000) :
    ∃ v, (∀ W' : World, W'.heap[mb]? = W.heap[mb]? → (Instr.lookup 96 (.map (some mb)) (.string s) false).run Try.prog W' = .ok v W') ∧ rowB W lo v (oldB L s) ∧ (∀ g ∈ L, g.a ≠ s → ∀ k, v.ownBlock = some k → (V g.a).ownBlock ≠ some k) ∧ ∀ k, v.ownBlock = some k → k ≠ p ∧ k ≠ mb := by
  unfold oldB
  cases hf : fdF L s with
  | none =>
    exact ⟨.slice none 0 0, fun W' he => ((h.map.same he).look_no strK15 Try.underlying96 (zero15 W') (keyS hs) (by rw [fsf_key, hf]; rfl)).2, rowB.nil _ _, fun g _ _ k hk => (by cases hk), fun k hk => (by cases hk)⟩
  | some d =>
    have hm := fdF_mem hf
    have hv := h.rows.rows _ hm
    exact ⟨V s, fun W' he => ((h.map.same he).look_yes strK15 Try.underlying96 (zero15 W') (keyS hs) (by rw [fsf_key, hf]; rfl)).2, hv, fun g hg e k hk => h.rows.apart _ hm g hg (fun c => e c.symm) k hk, fun k hk => h.blk hv hk⟩
/-- a file's row grows, all else is as it was -/
theorem FsW.grew {W W1 : World} {lo p mb : Nat} {L : List FlI} {V : ByteArray → Value} {n : Nat} (h : FsW W lo p mb L V n) {s d : ByteArray} {v v' : Value} (hs : s.size ≤ 1500000) (hl : L.length ≤ 1000000)
    (hv : ∀ g ∈ L, g.a ≠ s → ∀ k, v.ownBlock = some k → (V g.a).ownBlock ≠ some k) (hpm : ∀ k, v.ownBlock = some k → k ≠ p ∧ k ≠ mb) (hlt : ∀ k, v.ownBlock = some k → lo ≤ k)
    {d0 : ByteArray} (hv0 : rowB W lo v d0) (hg : W.grownBy W1 v.ownBlock) (hr : rowB W1 lo v' d) (hn : ∀ k, v'.ownBlock = some k → v.ownBlock = some k ∨ W.heap.size ≤ k) :
    W1.heap[p]? = W.heap[p]? ∧ W1.heap[mb]? = W.heap[mb]? ∧ ∃ W2, (Instr.mapUpdate 96 (.map (some mb)) (.string s) v').run Try.prog W1 = .ok () W2 ∧ FsW W2 lo p mb (putF L s d) (updV V s v') n ∧ BF lo p W W2 ∧ (∀ k, k < W.heap.size → k ≠ p → k ≠ mb → v.ownBlock ≠ some k → W2.heap[k]? = W.heap[k]?) := by
  have hpl := h.plt
  have e1 : W1.heap[p]? = W.heap[p]? := hg.block p hpl.1 (fun c => (hpm p c.symm).1 rfl)
  have e2 : W1.heap[mb]? = W.heap[mb]? := hg.block mb hpl.2 (fun c => (hpm mb c.symm).2 rfl)
  have hlo : lo ≤ W.heap.size := by have := h.base.1; omega
  obtain ⟨W2, h1, h2, h3⟩ := h.stored hs hl e1 e2 (fun f hf e k hk => hg.block k ((h.rows.rows f hf).lt hk) (fun c => hv f hf e k c.symm hk)) hr (fun g hg2 e k hk => by
    rcases hn k hk with c | c
    · exact hv g hg2 e k c
    · intro hc
      have := (h.rows.rows g hg2).lt hc
      omega)
  have hs1 := hg.size
  have hkk : ∀ k, k < W.heap.size → k ≠ p → k ≠ mb → v.ownBlock ≠ some k → W2.heap[k]? = W.heap[k]? := fun k hk a1 a2 a3 => by
    rw [h3.block k (by omega) (fun c => a2 (Option.some.inj c)), hg.block k hk (fun c => a3 c.symm)]
  refine ⟨e1, e2, W2, h1, h2, ⟨((Below.refl lo W).grown hg hlo hlt).grown h3 (by omega) (fun k hk => by have e : mb = k := Option.some.inj hk; have := h.base.2; omega), fun k cs t k1 k2 k3 => (hkk k (Array.getElem?_eq_some_iff.1 k1).1 k3 (by
    rintro rfl
    obtain ⟨D, ⟨es, clock, hb, _⟩, _⟩ := h.map
    rw [hb] at k1
    injection k1 with k1
    cases k1) (fun c => by
    obtain ⟨_, cur, hc⟩ := hv0.at c
    rw [hc] at k1
    injection k1 with k1
    injection k1 with _ k1 _
    exact k2 k1.symm)).trans k1⟩, hkk⟩
theorem oldB_size {L : List FlI} {s : ByteArray} : (oldB L s).size ≤ sumD L := by
  unfold oldB
  cases hf : fdF L s with
  | none => exact Nat.zero_le _
  | some d => exact sumD_mem (fdF_mem hf)
/-- the block of a set of files -/
def FsB (w : World) (p mb : Nat) : Prop := ∃ n : Int, w.heap[p]? = some (.cells #[.map (some mb), .int .i64 n] 98 (0, 0))
theorem bkne {w : World} {lo bk : Nat} {a d : ByteArray} {v : Value} {x : ByteArray} (hb : w.heap[bk]? = some (.cells #[.string a, .string d] 119 (0, 0))) (hr : rowB w lo v x) : v.ownBlock ≠ some bk := fun c => by
  obtain ⟨_, cur, h2⟩ := hr.at c
  rw [hb] at h2
  injection h2 with h2
  injection h2 with _ h2 _
  exact absurd h2 (by decide)
theorem bkp {w : World} {lo bk p mb n : Nat} {L : List FlI} {V : ByteArray → Value} {a d : ByteArray} (hb : w.heap[bk]? = some (.cells #[.string a, .string d] 119 (0, 0))) (hr : FsW w lo p mb L V n) : bk ≠ p := fun c => by
  have h2 := hr.box
  rw [← c, hb] at h2
  injection h2 with h2
  injection h2 with _ h2 _
  exact absurd h2 (by decide)
theorem bkm {w : World} {lo bk p mb n : Nat} {L : List FlI} {V : ByteArray → Value} {a d : ByteArray} (hb : w.heap[bk]? = some (.cells #[.string a, .string d] 119 (0, 0))) (hr : FsW w lo p mb L V n) : bk ≠ mb := fun c => by
  obtain ⟨D, ⟨es, clock, h2, _⟩, _⟩ := hr.map
  rw [← c, hb] at h2
  injection h2 with h2
  cases h2
set_option maxRecDepth 100000 in
set_option maxHeartbeats 2500000 in
theorem doA_any {lo p mb n n9 : Nat} {L : List FlI} {V : ByteArray → Value} (a d : ByteArray) (w : World) (h : FsW w lo p mb L V n) (hs : a.size ≤ 1500000) (hl : L.length ≤ 1000000) (hn : sumD L ≤ 50000000) (hd : d.size ≤ 2000000) (hn0 : n ≤ 100000000) (hn9 : n + d.size = n9) :
    Calls Try.prog 49 #[.pointer (some ⟨p, 0, none⟩), apV a d] w fun e w' => e = .returned (.tuple #[]) ∧ (∃ V', FsW w' lo p mb (putF L a (oldB L a ++ d)) V' n9) ∧ BF lo p w w' := by
  have HFI : Hid (Calls Try.prog 84 #[.pointer (some ⟨p, 0, none⟩), apV a d] w fun e w' => e = .returned (.bool true) ∧ Below w.heap.size w w') := findsA_any p a d w
  have HU : Hid (∀ w', Below w.heap.size w w' → FsW w' lo p mb L V n ∧ BF lo p w w') := fun w' hb => ⟨h.under hb, BF.of_below hb (by have := h.base.1; have := h.plt.1; omega)⟩
  have HOS := hidF (oldB_size (L := L) (s := a))
  have hw8 : IntKind.i64.wrap ((n : Int) + (d.size : Int)) = (n9 : Int) := by rw [IntKind.wrap_i64]; omega
  have hn8 : (n : Int) + (d.size : Int) = (n9 : Int) := by omega
  have hta := asAA (.agg #[.string a, .string d])
  clear h
  unfold apV at HFI ⊢
  go_enter Try.func49, Try.ntmps49
  go_wp2_with fail
  refine HFI.out.mono ?_
  rintro e w1 ⟨rfl, hb1⟩
  have hbA : Below w.heap.size w (w1.alloc (.cells #[.string a, .string d] 119)) := hb1.alloc hb1.size _
  have HWA := hidF (HU.out _ hbA)
  have HBK : Hid ((w1.alloc (.cells #[.string a, .string d] 119)).heap[w1.heap.size]? = some (.cells #[.string a, .string d] 119 (0, 0))) := heap_alloc_new w1 _
  clear hbA hb1 HFI HU
  go_wp2_with fail
  clear hta
  generalize w1.alloc (.cells #[.string a, .string d] 119) = w2 at HWA HBK ⊢
  generalize w1.heap.size = bk at HBK ⊢
  obtain ⟨v, hlk, hrow, hap, hpm⟩ := HWA.out.1.old hs
  obtain ⟨S, hS⟩ : ∃ S : World → Prop, S = fun w' => w'.cell? ⟨p, 0, none⟩ = some (.map (some mb)) ∧ w'.cell? ⟨bk, 0, none⟩ = some (.string a) ∧ w'.cell? ⟨bk, 1, none⟩ = some (.string d) := ⟨_, rfl⟩
  have hSd : S w2.drew := by rw [hS]; exact ⟨cell_of_row _ _ 0 _ _ _ HWA.out.1.box, cell_of_row _ _ 0 _ _ _ HBK.out, cell_of_row _ _ 1 _ _ _ HBK.out⟩
  have HSX : Hid (∀ w', S w' → w'.cell? ⟨p, 0, none⟩ = some (.map (some mb)) ∧ w'.cell? ⟨bk, 0, none⟩ = some (.string a) ∧ w'.cell? ⟨bk, 1, none⟩ = some (.string d)) := fun w' hq => by
    rw [hS] at hq
    exact hq
  have HSI : Hid (∀ w', FsB w' p mb → w'.heap[bk]? = some (.cells #[.string a, .string d] 119 (0, 0)) → S w') := fun w' h1 h2 => by
    rw [hS]
    obtain ⟨n1, h1⟩ := h1
    exact ⟨cell_of_row _ _ 0 _ _ _ h1, cell_of_row _ _ 0 _ _ _ h2, cell_of_row _ _ 1 _ _ _ h2⟩
  have HLK : Hid ((Instr.lookup 96 (.map (some mb)) (.string a) false).run Try.prog w2.drew = .ok v w2.drew) := hlk _ rfl
  have HDW : Hid (FsW w2.drew lo p mb L V n) := HWA.out.1.heap rfl
  have HDB : Hid (BF lo p w w2.drew) := HWA.out.2.drew
  have hbkl := (Array.getElem?_eq_some_iff.1 HBK.out).1
  have HRW : Hid (rowB w2.drew lo v (oldB L a)) := hrow.keep fun k hk => rfl
  have HBD : Hid (w2.drew.heap[bk]? = some (.cells #[.string a, .string d] 119 (0, 0))) := HBK.out
  have HSE : Hid (∀ k : Nat, w2.drew.heap[k]? = w2.heap[k]?) := fun k => rfl
  have HAP := hidF hap
  have HPM := hidF hpm
  clear hS hlk hrow hap hpm HBK HWA hbkl
  refine wp_region_held (S := S) (by kernel_rfl) ?_
  change wpAnyH _ _ _ _ _ _ _ _ (World.drew _)
  generalize w2.drew = X2 at hSd HDW HDB HRW HBD HSE HLK ⊢
  refine wpAnyH_take (i := 0) (v := .pointer (some ⟨p, 0, none⟩)) rfl (by kernel_rfl) (by kernel_rfl) (by kernel_rfl) (fun _ _ _ h => h) (Or.inl ⟨by rfl, by intro w' hS'; go_simp <;> (first | omega | rfl | exact hw8 | (rw [IntKind.wrap_i64]; omega))⟩) hSd ?_
  (try simp only [List.getElem_toArray, List.getElem_cons_succ, List.getElem_cons_zero, Act.put, List.setIfInBounds_toArray, List.set_cons_zero, List.set_cons_succ])
  refine wpAnyH_take (i := 1) (v := .pointer (some ⟨p, 0, none⟩)) rfl (by kernel_rfl) (by kernel_rfl) (by kernel_rfl) (fun _ _ _ h => h) (Or.inl ⟨by rfl, by intro w' hS'; go_simp <;> (first | omega | rfl | exact hw8 | (rw [IntKind.wrap_i64]; omega))⟩) hSd ?_
  (try simp only [List.getElem_toArray, List.getElem_cons_succ, List.getElem_cons_zero, Act.put, List.setIfInBounds_toArray, List.set_cons_zero, List.set_cons_succ])
  refine wpAnyH_take (i := 2) (v := .pointer (some ⟨p, 0, none⟩)) rfl (by kernel_rfl) (by kernel_rfl) (by kernel_rfl) (fun _ _ _ h => h) (Or.inl ⟨by rfl, by intro w' hS'; go_simp <;> (first | omega | rfl | exact hw8 | (rw [IntKind.wrap_i64]; omega))⟩) hSd ?_
  (try simp only [List.getElem_toArray, List.getElem_cons_succ, List.getElem_cons_zero, Act.put, List.setIfInBounds_toArray, List.set_cons_zero, List.set_cons_succ])
  refine wpAnyH_take (i := 3) (v := .map (some mb)) rfl (by kernel_rfl) (by kernel_rfl) (by kernel_rfl) (fun _ _ _ h => h) (Or.inl ⟨by rfl, by intro w' hS'; have hxx := (HSX.out w' hS').1; go_simp <;> (first | omega | rfl | exact hw8 | (rw [IntKind.wrap_i64]; omega))⟩) hSd ?_
  (try simp only [List.getElem_toArray, List.getElem_cons_succ, List.getElem_cons_zero, Act.put, List.setIfInBounds_toArray, List.set_cons_zero, List.set_cons_succ])
  refine wpAnyH_take (i := 4) (v := .pointer (some ⟨bk, 0, none⟩)) rfl (by kernel_rfl) (by kernel_rfl) (by kernel_rfl) (fun _ _ _ h => h) (Or.inl ⟨by rfl, by intro w' hS'; go_simp <;> (first | omega | rfl | exact hw8 | (rw [IntKind.wrap_i64]; omega))⟩) hSd ?_
  (try simp only [List.getElem_toArray, List.getElem_cons_succ, List.getElem_cons_zero, Act.put, List.setIfInBounds_toArray, List.set_cons_zero, List.set_cons_succ])
  refine wpAnyH_take (i := 5) (v := .string a) rfl (by kernel_rfl) (by kernel_rfl) (by kernel_rfl) (fun _ _ _ h => h) (Or.inl ⟨by rfl, by intro w' hS'; have hxx := (HSX.out w' hS').2.1; go_simp <;> (first | omega | rfl | exact hw8 | (rw [IntKind.wrap_i64]; omega))⟩) hSd ?_
  (try simp only [List.getElem_toArray, List.getElem_cons_succ, List.getElem_cons_zero, Act.put, List.setIfInBounds_toArray, List.set_cons_zero, List.set_cons_succ])
  refine wpAnyH_take (i := 6) (v := .pointer (some ⟨p, 0, none⟩)) rfl (by kernel_rfl) (by kernel_rfl) (by kernel_rfl) (fun _ _ _ h => h) (Or.inl ⟨by rfl, by intro w' hS'; go_simp <;> (first | omega | rfl | exact hw8 | (rw [IntKind.wrap_i64]; omega))⟩) hSd ?_
  (try simp only [List.getElem_toArray, List.getElem_cons_succ, List.getElem_cons_zero, Act.put, List.setIfInBounds_toArray, List.set_cons_zero, List.set_cons_succ])
  refine wpAnyH_take (i := 7) (v := .pointer (some ⟨p, 0, none⟩)) rfl (by kernel_rfl) (by kernel_rfl) (by kernel_rfl) (fun _ _ _ h => h) (Or.inl ⟨by rfl, by intro w' hS'; go_simp <;> (first | omega | rfl | exact hw8 | (rw [IntKind.wrap_i64]; omega))⟩) hSd ?_
  (try simp only [List.getElem_toArray, List.getElem_cons_succ, List.getElem_cons_zero, Act.put, List.setIfInBounds_toArray, List.set_cons_zero, List.set_cons_succ])
  refine wpAnyH_take (i := 8) (v := .pointer (some ⟨p, 0, none⟩)) rfl (by kernel_rfl) (by kernel_rfl) (by kernel_rfl) (fun _ _ _ h => h) (Or.inl ⟨by rfl, by intro w' hS'; go_simp <;> (first | omega | rfl | exact hw8 | (rw [IntKind.wrap_i64]; omega))⟩) hSd ?_
  (try simp only [List.getElem_toArray, List.getElem_cons_succ, List.getElem_cons_zero, Act.put, List.setIfInBounds_toArray, List.set_cons_zero, List.set_cons_succ])
  refine wpAnyH_take (i := 9) (v := .map (some mb)) rfl (by kernel_rfl) (by kernel_rfl) (by kernel_rfl) (fun _ _ _ h => h) (Or.inl ⟨by rfl, by intro w' hS'; have hxx := (HSX.out w' hS').1; go_simp <;> (first | omega | rfl | exact hw8 | (rw [IntKind.wrap_i64]; omega))⟩) hSd ?_
  (try simp only [List.getElem_toArray, List.getElem_cons_succ, List.getElem_cons_zero, Act.put, List.setIfInBounds_toArray, List.set_cons_zero, List.set_cons_succ])
  refine wpAnyH_take (i := 10) (v := .pointer (some ⟨bk, 0, none⟩)) rfl (by kernel_rfl) (by kernel_rfl) (by kernel_rfl) (fun _ _ _ h => h) (Or.inl ⟨by rfl, by intro w' hS'; go_simp <;> (first | omega | rfl | exact hw8 | (rw [IntKind.wrap_i64]; omega))⟩) hSd ?_
  (try simp only [List.getElem_toArray, List.getElem_cons_succ, List.getElem_cons_zero, Act.put, List.setIfInBounds_toArray, List.set_cons_zero, List.set_cons_succ])
  refine wpAnyH_take (i := 11) (v := .string a) rfl (by kernel_rfl) (by kernel_rfl) (by kernel_rfl) (fun _ _ _ h => h) (Or.inl ⟨by rfl, by intro w' hS'; have hxx := (HSX.out w' hS').2.1; go_simp <;> (first | omega | rfl | exact hw8 | (rw [IntKind.wrap_i64]; omega))⟩) hSd ?_
  (try simp only [List.getElem_toArray, List.getElem_cons_succ, List.getElem_cons_zero, Act.put, List.setIfInBounds_toArray, List.set_cons_zero, List.set_cons_succ])
  refine wpAnyH_take (i := 13) (v := .pointer (some ⟨bk, 1, none⟩)) rfl (by kernel_rfl) (by kernel_rfl) (by kernel_rfl) (fun _ _ _ h => h) (Or.inl ⟨by rfl, by intro w' hS'; go_simp <;> (first | omega | rfl | exact hw8 | (rw [IntKind.wrap_i64]; omega))⟩) hSd ?_
  (try simp only [List.getElem_toArray, List.getElem_cons_succ, List.getElem_cons_zero, Act.put, List.setIfInBounds_toArray, List.set_cons_zero, List.set_cons_succ])
  refine wpAnyH_take (i := 14) (v := .string d) rfl (by kernel_rfl) (by kernel_rfl) (by kernel_rfl) (fun _ _ _ h => h) (Or.inl ⟨by rfl, by intro w' hS'; have hxx := (HSX.out w' hS').2.2; go_simp <;> (first | omega | rfl | exact hw8 | (rw [IntKind.wrap_i64]; omega))⟩) hSd ?_
  (try simp only [List.getElem_toArray, List.getElem_cons_succ, List.getElem_cons_zero, Act.put, List.setIfInBounds_toArray, List.set_cons_zero, List.set_cons_succ])
  have hlk2 := HLK.out
  refine held_stepS (i := 12) (by kernel_rfl) rfl (by rfl) ?_
  go_simp
  refine ⟨hSd, ?_⟩
  (try simp only [List.getElem_toArray, List.getElem_cons_succ, List.getElem_cons_zero, Act.put, List.setIfInBounds_toArray, List.set_cons_zero, List.set_cons_succ])
  refine held_stepS (i := 15) (by kernel_rfl) rfl (by rfl) ?_
  obtain ⟨v5, W5, hr5, hv5, hg5, hn5⟩ := append_row HRW.out d (by have := HOS.out; omega) (by have := HDW.out.base.1; have := HDW.out.plt.1; omega) 22
  refine wp_append_str _ _ 22 9 rfl v (.string d) v5 rfl rfl hr5 ?_
  obtain ⟨e5, f5, W6, hr6, hF6, hb6, hk6⟩ := HDW.out.grew hs hl HAP.out HPM.out (fun k hk => (HRW.out.at hk).1) HRW.out hg5 hv5 hn5
  have hbk5 : W5.heap[bk]? = X2.heap[bk]? := hg5.block bk (Array.getElem?_eq_some_iff.1 HBD.out).1 (fun c => (bkne HBD.out HRW.out c.symm))
  have hS5 := HSI.out W5 ⟨_, e5.trans HDW.out.box⟩ (hbk5.trans HBD.out)
  refine ⟨hS5, ?_⟩
  (try simp only [List.getElem_toArray, List.getElem_cons_succ, List.getElem_cons_zero, Act.put, List.setIfInBounds_toArray, List.set_cons_zero, List.set_cons_succ])
  have hbk6 : W6.heap[bk]? = some (.cells #[.string a, .string d] 119 (0, 0)) := (hk6 bk (Array.getElem?_eq_some_iff.1 HBD.out).1 (fun c => bkp HBD.out HDW.out c) (fun c => bkm HBD.out HDW.out c) (fun c => bkne HBD.out HRW.out c)).trans HBD.out
  have hS6 := HSI.out W6 ⟨_, hF6.box⟩ hbk6
  refine held_stepS (i := 16) (by kernel_rfl) rfl (by rfl) ?_
  go_simp
  refine ⟨hS6, ?_⟩
  (try simp only [List.getElem_toArray, List.getElem_cons_succ, List.getElem_cons_zero, Act.put, List.setIfInBounds_toArray, List.set_cons_zero, List.set_cons_succ])
  refine wpAnyH_done (by kernel_rfl) ?_ _
  have HF6 := hidF hF6
  have HBK6 := hidF hbk6
  have HB6 : Hid (BF lo p w W6) := HDB.out.trans hb6
  clear hr5 hv5 hg5 hn5 e5 f5 hr6 hF6 hb6 hk6 hbk5 hbk6 hS5 hS6 hSd hlk2 HLK HDW HDB HRW HBD HSE HSX HSI
  have c1 := cell_of_row _ _ 1 _ _ _ HF6.out.box
  have z1 := frozen_of_row _ p 1 _ _ HF6.out.box
  have d1 := cell_of_row _ _ 1 _ _ _ HBK6.out
  have HFN : Hid (∀ X : World, X.heap = W6.heap → Below W6.heap.size W6 X → FsW (X.setCell ⟨p, 1, none⟩ (.int .i64 (n9 : Int))) lo p mb (putF L a (oldB L a ++ d)) (updV V a v5) n9 ∧ FrK W6 (X.setCell ⟨p, 1, none⟩ (.int .i64 (n9 : Int))) lo p mb) := fun X he hb => HF6.out.numK he hb
  go_wp2_with fail
  go_region
  have hX := HFN.out W6 rfl (Below.refl _ _)
  go_wp2_with fail
  go_end0
  exact ⟨rfl, ⟨_, hX.1.heap rfl⟩, (HB6.out.trans (hX.2.bf HF6.out)).drew⟩
end Go.Proofs.Ytanlggglbpibfaa
