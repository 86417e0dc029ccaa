/-
  A set of files in memory: a map from names to rows of bytes that are its own, and how many bytes there are.
-/
import Derived.Test.YtanlggglbpibfaaFlV
import Derived.Test.YtanlggglbpibfaaMq
import Derived.Lib.AppendStr
import Derived.StringKeys
import Derived.Maps.Views
import Derived.Maps.OwnSet
namespace Go.Proofs.Ytanlggglbpibfaa
open Go.RowKit
open Go.Maps (Keyed)
set_option linter.unusedVariables false
set_option linter.unusedSimpArgs false
/-- bytes in a row of their own -/
def rowB (W : World) (lo : Nat) (v : Value) (d : ByteArray) : Prop := W.ownsRow lo 5 1 v d.size (Lib.strCells d)
theorem rowB.at {W : World} {lo : Nat} {v : Value} {d : ByteArray} (h : rowB W lo v d) {k : Nat} (hk : v.ownBlock = some k) : lo ≤ k ∧ ∃ cur, W.heap[k]? = some (.cells cur 5 (0, 0)) := by
  obtain ⟨_, ⟨h0, _⟩ | ⟨g, cap, cur, h1, h2, h3, _⟩⟩ := h
  · subst h0; cases hk
  · subst h1
    have e : g = k := Option.some.inj hk
    subst e
    exact ⟨h2, cur, h3⟩
theorem rowB.keep {W W' : World} {lo : Nat} {v : Value} {d : ByteArray} (h : rowB W lo v d) (hb : ∀ k, v.ownBlock = some k → W'.heap[k]? = W.heap[k]?) : rowB W' lo v d := by
  obtain ⟨h0, h1 | ⟨g, cap, cur, h1, h2, h3, h4⟩⟩ := h
  · exact ⟨h0, Or.inl h1⟩
  · exact ⟨h0, Or.inr ⟨g, cap, cur, h1, h2, (hb g (by rw [h1]; rfl)).trans h3, h4⟩⟩
theorem rowB.lt {W : World} {lo : Nat} {v : Value} {d : ByteArray} (h : rowB W lo v d) {k : Nat} (hk : v.ownBlock = some k) : k < W.heap.size := by
  obtain ⟨_, cur, h2⟩ := h.at hk
  exact (Array.getElem?_eq_some_iff.1 h2).1
theorem rowB.nil (W : World) (lo : Nat) : rowB W lo (.slice none 0 0) ⟨#[]⟩ := World.ownsRow_nil _ _ _ _
structure FsR (W : World) (lo : Nat) (L : List FlI) (V : ByteArray → Value) : Prop where
  rows : ∀ f ∈ L, rowB W lo (V f.a) f.d
  apart : ∀ f ∈ L, ∀ g ∈ L, f.a ≠ g.a → ∀ k, (V f.a).ownBlock = some k → (V g.a).ownBlock ≠ some k
theorem FsR.none (W : World) (lo : Nat) (V : ByteArray → Value) : FsR W lo [] V := ⟨fun f h => (by cases h), fun f h => (by cases h)⟩
theorem FsR.keep {W W' : World} {lo : Nat} {L : List FlI} {V : ByteArray → Value} (h : FsR W lo L V) (hb : ∀ f ∈ L, ∀ k, (V f.a).ownBlock = some k → W'.heap[k]? = W.heap[k]?) : FsR W' lo L V :=
  ⟨fun f hf => (h.rows f hf).keep (hb f hf), h.apart⟩
theorem FsR.sub {W : World} {lo : Nat} {L K : List FlI} {V : ByteArray → Value} (h : FsR W lo L V) (hs : ∀ f ∈ K, f ∈ L) : FsR W lo K V :=
  ⟨fun f hf => h.rows f (hs f hf), fun f hf g hg => h.apart f (hs f hf) g (hs g hg)⟩
noncomputable def updV (V : ByteArray → Value) (s : ByteArray) (v : Value) : ByteArray → Value := fun x => open Classical in if x = s then v else V x
theorem updV_same (V : ByteArray → Value) (s : ByteArray) (v : Value) : updV V s v s = v := by unfold updV; rw [if_pos rfl]
theorem updV_other {V : ByteArray → Value} {s x : ByteArray} {v : Value} (h : x ≠ s) : updV V s v x = V x := by unfold updV; rw [if_neg h]
theorem putF_name {K : List FlI} {s d : ByteArray} (hr : riseF K) {f : FlI} (hf : f ∈ putF K s d) (e : f.a = s) : f.d = d := by
  have h1 := fdF_of (riseF_put hr s d) hf
  rw [e, fdF_put_same] at h1
  exact (Option.some.inj h1).symm
theorem putF_else {K : List FlI} {s d : ByteArray} {f : FlI} (hf : f ∈ putF K s d) (e : f.a ≠ s) : f ∈ K := by
  rcases putF_mem hf with rfl | h
  · exact absurd rfl e
  · exact h
theorem FsR.ins {W : World} {lo : Nat} {K : List FlI} {V : ByteArray → Value} {s d : ByteArray} {v : Value} (h1 : ∀ f ∈ K, f.a ≠ s → rowB W lo (V f.a) f.d) (h2 : ∀ f ∈ K, ∀ g ∈ K, f.a ≠ g.a → ∀ k, (V f.a).ownBlock = some k → (V g.a).ownBlock ≠ some k) (hr : riseF K) (hv : rowB W lo v d) (ha : ∀ g ∈ K, g.a ≠ s → ∀ k, v.ownBlock = some k → (V g.a).ownBlock ≠ some k) : FsR W lo (putF K s d) (updV V s v) := by
  refine ⟨fun f hf => ?_, fun f hf g hg hne k hk => ?_⟩
  · by_cases e : f.a = s
    · rw [e, updV_same, putF_name hr hf e]; exact hv
    · rw [updV_other e]; exact h1 f (putF_else hf e) e
  · by_cases e : f.a = s
    · have e2 : g.a ≠ s := fun c => hne (e.trans c.symm)
      rw [e, updV_same] at hk
      rw [updV_other e2]
      exact ha g (putF_else hg e2) e2 k hk
    · rw [updV_other e] at hk
      by_cases e2 : g.a = s
      · rw [e2, updV_same]
        intro c
        exact ha f (putF_else hf e) e k c hk
      · rw [updV_other e2]
        exact h2 f (putF_else hf e) g (putF_else hg e2) hne k hk
/-- what the map gives -/
def fsf (L : List FlI) (V : ByteArray → Value) : Lit → Option Value
  | .string l => (fdF L ⟨l.toArray⟩).map fun _ => V ⟨l.toArray⟩
  | _ => none
theorem key_back (s : ByteArray) : (⟨s.data.toList.toArray⟩ : ByteArray) = s := by cases s; simp
theorem fsf_key (L : List FlI) (V : ByteArray → Value) (s : ByteArray) : fsf L V (.string s.data.toList) = (fdF L s).map fun _ => V s := by
  show (fdF L ⟨s.data.toList.toArray⟩).map (fun _ => V ⟨s.data.toList.toArray⟩) = _
  rw [key_back]
theorem key_ne {l : List UInt8} {s : ByteArray} (h : Lit.string l ≠ .string s.data.toList) : (⟨l.toArray⟩ : ByteArray) ≠ s := by
  rintro rfl
  exact h (by simp)
theorem fsf_put (L : List FlI) (V : ByteArray → Value) (s d : ByteArray) (v : Value) (kl : Lit) : fsf (putF L s d) (updV V s v) kl = stK (fsf L V) (.string s.data.toList) v kl := by
  by_cases e : kl = .string s.data.toList
  · subst e
    rw [stK_same, fsf_key, fdF_put_same, updV_same]; rfl
  · rw [stK_other e]
    cases kl with
    | string l =>
      have hne := key_ne e
      show (fdF _ _).map _ = (fdF _ _).map _
      rw [fdF_put_other _ _ hne, updV_other hne]
    | _ => rfl
theorem fsf_cut (L : List FlI) (V : ByteArray → Value) (s : ByteArray) (kl : Lit) : fsf (cutF L s) V kl = dlK (fsf L V) (.string s.data.toList) kl := by
  by_cases e : kl = .string s.data.toList
  · subst e
    rw [dlK_same, fsf_key, fdF_cut_same]; rfl
  · rw [dlK_other e]
    cases kl with
    | string l =>
      have hne := key_ne e
      show (fdF _ _).map _ = (fdF _ _).map _
      rw [fdF_cut_other _ hne]
    | _ => rfl
theorem strK15 : Keyed Try.prog 9 := Maps.string_keyed Try.underlying9
theorem keyS {s : ByteArray} (h : s.size ≤ 1500000) : keyOf Try.prog 9 (.string s) = some (.string s.data.toList) := WideMaps.keyOf_string_mk Try.underlying9 (by unfold maxLen; omega)
/-- a set of files: its block p, its map mb -/
structure FsW (W : World) (lo p mb : Nat) (L : List FlI) (V : ByteArray → Value) (n : Nat) : Prop where
  box : W.heap[p]? = some (.cells #[.map (some mb), .int .i64 (n : Int)] 98 (0, 0))
  map : MapF W Try.prog 9 mb L.length (fsf L V)
  rise : riseF L
  rows : FsR W lo L V
  base : lo ≤ p ∧ lo ≤ mb
theorem FsW.blk {W : World} {lo p mb : Nat} {L : List FlI} {V : ByteArray → Value} {n : Nat} (h : FsW W lo p mb L V n) {v : Value} {d : ByteArray} (hv : rowB W lo v d) {k : Nat} (hk : v.ownBlock = some k) : k ≠ p ∧ k ≠ mb := by
  obtain ⟨_, cur, h2⟩ := hv.at hk
  constructor
  · rintro rfl
    rw [h.box] at h2
    injection h2 with h2
    injection h2 with _ h2 _
    exact absurd h2 (by decide)
  · rintro rfl
    obtain ⟨D, ⟨es, clock, hb, _⟩, _⟩ := h.map
    rw [hb] at h2
    injection h2 with h2
    cases h2
theorem FsW.pm {W : World} {lo p mb : Nat} {L : List FlI} {V : ByteArray → Value} {n : Nat} (h : FsW W lo p mb L V n) : p ≠ mb := by
  rintro rfl
  obtain ⟨D, ⟨es, clock, hb, _⟩, _⟩ := h.map
  rw [h.box] at hb
  injection hb with hb
  cases hb
theorem FsW.under {W W' : World} {lo p mb : Nat} {L : List FlI} {V : ByteArray → Value} {n : Nat} (h : FsW W lo p mb L V n) (hb : Below W.heap.size W W') : FsW W' lo p mb L V n :=
  ⟨(hb.block p (Array.getElem?_eq_some_iff.1 h.box).1).trans h.box, h.map.under hb, h.rise, h.rows.keep fun f hf k hk => hb.block k ((h.rows.rows f hf).lt hk), h.base⟩
theorem FsW.num {W : World} {lo p mb : Nat} {L : List FlI} {V : ByteArray → Value} {n n' : Nat} (h : FsW W lo p mb L V n) : FsW (W.setCell ⟨p, 1, none⟩ (.int .i64 (n' : Int))) lo p mb L V n' := by
  refine ⟨?_, h.map.same (heap_setCell_other _ _ _ _ (fun e => h.pm e.symm)), h.rise, h.rows.keep fun f hf k hk => heap_setCell_other _ _ _ _ ((h.blk (h.rows.rows f hf) hk).1), h.base⟩
  have := heap_setCell_same W p 1 _ _ (.int .i64 (n' : Int)) h.box
  simpa using this
end Go.Proofs.Ytanlggglbpibfaa
