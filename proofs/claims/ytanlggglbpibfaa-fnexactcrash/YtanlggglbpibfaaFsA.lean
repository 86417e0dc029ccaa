/-
  A set of files: bytes behind a row's own, a file stored, a file gone.
-/
import Derived.Test.YtanlggglbpibfaaFsM
namespace Go.Proofs.Ytanlggglbpibfaa
open Go.RowKit
open Go.Maps (Keyed)
set_option linter.unusedVariables false
set_option linter.unusedSimpArgs false
theorem run_append_str_fr {P : Program} (w : World) (base : Nat) (t u ty e : TypeId) (i : TypeInfo) (ht : P.underlying t = some (.slice e)) (hu : P.underlying u = some .string) (hi : P.info? e = some i) (hz : i.zero = some (.int .u8 0))
    (hsize : i.size = 1) (hby : i.bytes = 1)
    (v : Value) (n : Nat) (xs : List Value) (hown : w.ownsRow base e 1 v n xs) (s : ByteArray)
    (h63 : n + s.size ≤ maxLen) (hbytes : n + s.size ≤ 140737488355328) (hbase : base ≤ w.heap.size) :
    ∃ v' w', (Builtin.append_ #[t, u] ty #[v, .string s]).run P w = .ok v' w' ∧ w'.ownsRow base e 1 v' (n + s.size) (xs ++ Lib.strCells s) ∧ w.grownBy w' v.ownBlock ∧ (∀ k, v'.ownBlock = some k → v.ownBlock = some k ∨ w.heap.size ≤ k) := by
  obtain ⟨v', w', hr, h1, h2, _⟩ := Lib.run_append_own_string (P := P) w base t u ty e i ht hu hi hz hsize hby v n xs hown s h63 hbytes hbase
  refine ⟨v', w', hr, h1, h2, fun k hk => ?_⟩
  obtain ⟨hl, ⟨h0, hn⟩ | ⟨g, cap, cur, e1, _, hg, hnc, hcm, hcs, htk⟩⟩ := hown
  · subst h0 hn
    have hx : xs = [] := List.eq_nil_of_length_eq_zero (by simpa using hl)
    subst hx
    obtain ⟨v2, w2, hr2, k1, k2, _⟩ := Lib.run_append_own_string (P := P) w w.heap.size t u ty e i ht hu hi hz hsize hby (.slice none 0 0) 0 [] (World.ownsRow_nil _ _ _ _) s h63 hbytes (Nat.le_refl _)
    rw [hr] at hr2
    injection hr2 with e1 e2
    subst e1
    exact Or.inr (k1.lt k hk).1
  · subst e1
    by_cases hroom : n + s.size ≤ cap
    · have hfit : n + s.size ≤ cur.size := by
        have hc : cur.size = cap := by simpa using hcs
        omega
      have hr2 := Lib.run_append_room_string (P := P) w t u ty e i ht hu hi hsize g n cap cur hg s hroom hfit
      rw [hr] at hr2
      injection hr2 with e1 e2
      subst e1
      exact Or.inl hk
    · have holds : ∀ j u, xs[j]? = some u → w.cell? ((⟨g, 0, none⟩ : Addr).add j) = some u := World.ownsRow.cells (g := g) (base := base) (e := e) (size := 1) (n := n) (v := .slice (some ⟨g, 0, none⟩) n cap) ⟨hl, Or.inr ⟨g, cap, cur, rfl, ‹_›, hg, hnc, hcm, hcs, htk⟩⟩ rfl
      have hxl : xs.length = n := by simpa using hl
      have hr2 := Lib.run_append_grow_string (P := P) w t u ty e i (.int .u8 0) ht hu hi hz ⟨g, 0, none⟩ n cap xs (by rw [hsize]; simpa using hxl) holds s (by omega) (by simp only [maxLen] at h63; omega) (by rw [hby]; exact growslice_fits (by omega) (by omega))
      rw [hr] at hr2
      injection hr2 with e1 e2
      subst e1
      exact Or.inr (by have e0 : w.heap.size = k := Option.some.inj hk; omega)
theorem strCells_app (a b : ByteArray) : Lib.strCells a ++ Lib.strCells b = Lib.strCells (a ++ b) := by
  unfold Lib.strCells
  rw [ByteArray.data_append, Array.toList_append, List.map_append]
/-- bytes behind a row's own: the row, and where it lies -/
theorem append_row {W : World} {lo : Nat} {v : Value} {d : ByteArray} (h : rowB W lo v d) (s : ByteArray) (hs : d.size + s.size ≤ 100000000) (hlo : lo ≤ W.heap.size) (ty : TypeId) :
    ∃ v' W', (Builtin.append_ #[22, 9] ty #[v, .string s]).run Try.prog W = .ok v' W' ∧ rowB W' lo v' (d ++ s) ∧ W.grownBy W' v.ownBlock ∧ (∀ k, v'.ownBlock = some k → v.ownBlock = some k ∨ W.heap.size ≤ k) := by
  obtain ⟨i0, hi, hz0, hz1, hz2⟩ := info_parts (show (Try.prog.info? 5).map (fun i => (i.zero, i.size, i.bytes)) = some (some (.int .u8 0), 1, 1) by kernel_rfl)
  obtain ⟨v', W', h1, h2, h3, h4⟩ := run_append_str_fr (P := Try.prog) W lo 22 9 ty 5 i0 Try.underlying22 Try.underlying9 hi hz0 hz1 hz2 v d.size (Lib.strCells d) h s (by unfold maxLen; omega) (by omega) hlo
  refine ⟨v', W', h1, ?_, h3, h4⟩
  rw [strCells_app] at h2
  unfold rowB
  rw [ByteArray.size_append]
  exact h2
theorem zero15 (w : World) : (zeroValue 22).run Try.prog w = .ok (.slice none 0 0) w := by kernel_rfl
theorem FsW.look_yes {W : World} {lo p mb : Nat} {L : List FlI} {V : ByteArray → Value} {n : Nat} (h : FsW W lo p mb L V n) {s d : ByteArray} (hs : s.size ≤ 1500000) (hf : fdF L s = some d) :
    ((Instr.lookup 96 (.map (some mb)) (.string s) true).run Try.prog W = .ok (.tuple #[V s, .bool true]) W ∧ (Instr.lookup 96 (.map (some mb)) (.string s) false).run Try.prog W = .ok (V s) W) ∧ rowB W lo (V s) d := by
  refine ⟨h.map.look_yes strK15 Try.underlying96 (zero15 W) (keyS hs) (by rw [fsf_key, hf]; rfl), ?_⟩
  have := h.rows.rows _ (fdF_mem hf)
  exact this
theorem FsW.look_no {W : World} {lo p mb : Nat} {L : List FlI} {V : ByteArray → Value} {n : Nat} (h : FsW W lo p mb L V n) {s : ByteArray} (hs : s.size ≤ 1500000) (hf : fdF L s = none) :
    (Instr.lookup 96 (.map (some mb)) (.string s) true).run Try.prog W = .ok (.tuple #[.slice none 0 0, .bool false]) W ∧ (Instr.lookup 96 (.map (some mb)) (.string s) false).run Try.prog W = .ok (.slice none 0 0) W :=
  h.map.look_no strK15 Try.underlying96 (zero15 W) (keyS hs) (by rw [fsf_key, hf]; rfl)
theorem FsW.stored {W W1 : World} {lo p mb : Nat} {L : List FlI} {V : ByteArray → Value} {n : Nat} (h : FsW W lo p mb L V n) {s d : ByteArray} {v : Value} (hs : s.size ≤ 1500000) (hl : L.length ≤ 1000000)
    (hp : W1.heap[p]? = W.heap[p]?) (hm : W1.heap[mb]? = W.heap[mb]?) (hr : ∀ f ∈ L, f.a ≠ s → ∀ k, (V f.a).ownBlock = some k → W1.heap[k]? = W.heap[k]?) (hv : rowB W1 lo v d)
    (ha : ∀ g ∈ L, g.a ≠ s → ∀ k, v.ownBlock = some k → (V g.a).ownBlock ≠ some k) :
    ∃ W2, (Instr.mapUpdate 96 (.map (some mb)) (.string s) v).run Try.prog W1 = .ok () W2 ∧ FsW W2 lo p mb (putF L s d) (updV V s v) n ∧ W1.grownBy W2 (some mb) := by
  have hM := h.map.same hm
  obtain ⟨W2, h1, h2, h3⟩ := hM.store strK15 Try.underlying96 (by unfold maxLen; omega) (val := v) (keyS hs)
  have hsz := (putF_size h.rise s d).1
  have hpl := (Array.getElem?_eq_some_iff.1 (hp.trans h.box)).1
  have hrow : FsR W1 lo (putF L s d) (updV V s v) := FsR.ins (fun f hf e => (h.rows.rows f hf).keep (hr f hf e)) h.rows.apart h.rise hv ha
  have hkb : ∀ f ∈ putF L s d, ∀ k, ((updV V s v) f.a).ownBlock = some k → k ≠ mb := fun f hf k hk => by
    rintro rfl
    obtain ⟨_, cur, hc⟩ := (hrow.rows f hf).at hk
    obtain ⟨D, ⟨es, clock, hb, _⟩, _⟩ := hM
    rw [hb] at hc
    injection hc with hc
    cases hc
  refine ⟨W2, h1, ⟨(h3.block p hpl (fun e => h.pm (Option.some.inj e))).trans (hp.trans h.box), ?_, riseF_put h.rise s d, hrow.keep fun f hf k hk => h3.block k ((hrow.rows f hf).lt hk) (fun e => hkb f hf k hk (Option.some.inj e)), h.base⟩, h3⟩
  have e : (putF L s d).length = if (fsf L V (.string s.data.toList)).isSome then L.length else L.length + 1 := by
    rw [hsz, fsf_key]
    cases fdF L s <;> rfl
  rw [e]
  exact h2.congr fun kl _ => fsf_put L V s d v kl
theorem FsW.gone {W : World} {lo p mb : Nat} {L : List FlI} {V : ByteArray → Value} {n : Nat} (h : FsW W lo p mb L V n) {s : ByteArray} (hs : s.size ≤ 1500000) (ty : TypeId) :
    ∃ W2, (Builtin.delete_ #[96, 9] ty #[.map (some mb), .string s]).run Try.prog W = .ok (.tuple #[]) W2 ∧ FsW W2 lo p mb (cutF L s) V n ∧ W.grownBy W2 (some mb) := by
  obtain ⟨W2, h1, h2, h3⟩ := h.map.drop strK15 Try.underlying96 (keyS hs) ty
  have hrow := h.rows.sub (K := cutF L s) fun f hf => (cutF_mem hf).1
  refine ⟨W2, h1, ⟨(h3.block p (Array.getElem?_eq_some_iff.1 h.box).1 (fun e => h.pm (Option.some.inj e))).trans h.box, ?_, riseF_cut h.rise s, hrow.keep fun f hf k hk => h3.block k ((hrow.rows f hf).lt hk) (fun e => (h.blk (hrow.rows f hf) hk).2 (Option.some.inj e)), h.base⟩, h3⟩
  have e : (cutF L s).length = if (fsf L V (.string s.data.toList)).isSome then L.length - 1 else L.length := by
    rw [(cutF_size h.rise s).1, fsf_key]
    cases fdF L s <;> rfl
  rw [e]
  exact h2.congr fun kl _ => fsf_cut L V s kl
end Go.Proofs.Ytanlggglbpibfaa
