/-
  Tokens behind tokens make text behind text.
-/
import Derived.Test.YtnkahdidelhdaacUnTk
namespace Go.Proofs.Ytnkahdidelhdaac
open Go.RowKit
set_option linter.unusedVariables false
theorem unPre_congr {F G : Nat → TkI} : ∀ i, (∀ j, j < i → F j = G j) → unPre F i = unPre G i
  | 0, _ => rfl
  | i + 1, h => by
    have ih := unPre_congr i (fun j hj => h j (by omega))
    show (match unPre F i with | none => none | some o => unT o (F i)) = (match unPre G i with | none => none | some o => unT o (G i))
    rw [ih, h i (by omega)]
theorem cpI_pre (o b : List Nat) (d : Nat) (h1 : 1 ≤ d) (h2 : d ≤ b.length) : ∀ m, cpI d (o ++ b) m = o ++ cpI d b m
  | 0 => rfl
  | m + 1 => by
    show cpI d (o ++ b) m ++ [(cpI d (o ++ b) m).getD ((cpI d (o ++ b) m).length - d) 0] = o ++ (cpI d b m ++ [(cpI d b m).getD ((cpI d b m).length - d) 0])
    have hl := cpI_len d b m
    rw [cpI_pre o b d h1 h2 m, List.append_assoc, List.length_append]
    congr 3
    rw [List.getD_eq_getElem?_getD, List.getD_eq_getElem?_getD, List.getElem?_append_right (by omega)]
    congr 2
    omega
theorem tkOut_pre {o b : List Nat} {t : TkI} (hp : tokP t.k t.b t.d t.l (b.length : Int)) : tkOut (o ++ b) t = o ++ tkOut b t := by
  unfold tkOut
  by_cases hk : t.k = 0
  · rw [if_pos hk, if_pos hk, List.append_assoc]
  · rw [if_neg hk, if_neg hk]
    rcases hp.2 with ⟨c, _⟩ | ⟨_, _, h1, _, h3, _⟩
    · exact absurd c hk
    · exact cpI_pre o b t.d.toNat (by omega) (by omega) _
theorem tokP_pre {o b : List Nat} {t : TkI} (hp : tokP t.k t.b t.d t.l (b.length : Int)) : tokP t.k t.b t.d t.l ((o ++ b).length : Int) := by
  rw [List.length_append]
  obtain ⟨h0, h⟩ := hp
  refine ⟨by omega, ?_⟩
  rcases h with h | ⟨a1, a2, a3, a4, a5, a6⟩
  · exact Or.inl h
  · exact Or.inr ⟨a1, a2, a3, a4, by omega, a6⟩
theorem unPre_app {F G : Nat → TkI} {n : Nat} {o : List Nat} {s : ByteArray} (hF : unPre F n = some o) (hs : o.length + s.size ≤ 4000) (h1 : ∀ j, j < n → G j = F j) (h2 : ∀ j, j < (tkL s).length → G (n + j) = tkF s j) :
    ∀ j, j ≤ (tkL s).length → unPre G (n + j) = some (o ++ bytesL s (atS s j))
  | 0, _ => by
    show unPre G n = some (o ++ [])
    rw [unPre_congr n h1, hF, List.append_nil]
  | j + 1, hj => by
    have ih := unPre_app hF hs h1 h2 j (by omega)
    obtain ⟨q1, q2, q3⟩ := (tkL_shape s).1 j (by omega)
    obtain ⟨t1, t2⟩ := tok_ok (by omega) q1
    have hst := (step_in q1).2
    have t1' : tokP (tkI (tokAt s (atS s j))).k (tkI (tokAt s (atS s j))).b (tkI (tokAt s (atS s j))).d (tkI (tokAt s (atS s j))).l ((bytesL s (atS s j)).length : Int) := by rw [bytesL_len]; exact t1
    have e : tkOut (o ++ bytesL s (atS s j)) (tkI (tokAt s (atS s j))) = o ++ bytesL s (atS s (j + 1)) := by rw [tkOut_pre t1', t2, q3]
    have := unPre_step ih
    rw [h2 j (by omega), tkF_at (by omega)] at this
    rw [show n + (j + 1) = n + j + 1 by omega, this, unT_yes (tokP_pre t1') (by rw [e, List.length_append, bytesL_len, q3]; omega), e]
theorem strL_app (o p : List Nat) : strL (o ++ p) = strL o ++ strL p := by
  unfold strL
  apply ByteArray.ext
  simp
theorem un_both {L : List TkI} {o : List Nat} {s : ByteArray} (hL : L.length ≤ 602) (hs6 : s.size ≤ 600) (hF : unPre (fun i => L.getD i ⟨0, 0, 0, 0⟩) L.length = some o) (hs : o.length + s.size ≤ 4000) :
    unAns (unOf (fun i => (L ++ (tkL s).map tkI).getD i ⟨0, 0, 0, 0⟩) (L ++ (tkL s).map tkI).length) = .tuple #[.string (strL o ++ s), .bool true] := by
  have hsh := tkL_shape s
  have hn : (L ++ (tkL s).map tkI).length = L.length + (tkL s).length := by simp
  have h := unPre_app (G := fun i => (L ++ (tkL s).map tkI).getD i ⟨0, 0, 0, 0⟩) hF hs (fun j hj => by
      show (L ++ _).getD j _ = L.getD j _
      rw [List.getD_eq_getElem?_getD, List.getD_eq_getElem?_getD, List.getElem?_append_left hj]) (fun j hj => by
      show (L ++ _).getD (L.length + j) _ = tkF s j
      rw [List.getD_eq_getElem?_getD, List.getElem?_append_right (by omega), show L.length + j - L.length = j by omega, List.getElem?_map]
      unfold tkF
      rw [List.getD_eq_getElem?_getD, List.getElem?_eq_getElem hj]; rfl) (tkL s).length (Nat.le_refl _)
  rw [hn]
  unfold unOf
  rw [if_pos (by omega), h, hsh.2.1]
  show Value.tuple #[.string (strL (o ++ bytesL s s.size)), .bool true] = _
  rw [strL_app, strL_bytes]
end Go.Proofs.Ytnkahdidelhdaac
