/-
  What the laws of trees' texts are drawn of.
-/
import Derived.Test.YtadimakdjndcdaeDoorDrwTr
namespace Go.Proofs.YtadimakdjndcdaeDoor
open Go.RowKit
set_option linter.unusedVariables false
set_option linter.unusedSimpArgs false
theorem ndF_sz (L : List NdI) (h : ∀ p ∈ L, p.p.size ≤ 100 ∧ p.d.size ≤ 600) {i : Nat} (hi : i < L.length) : (ndF L i).p.size ≤ 100 ∧ (ndF L i).d.size ≤ 600 := by
  have e : ndF L i = L[i] := by unfold ndF; simp [hi]
  rw [e]
  exact h _ (List.getElem_mem hi)
theorem ndTot_sz (F : Nat → NdI) : ∀ n : Nat, (∀ i, i < n → (F i).p.size ≤ 100 ∧ (F i).d.size ≤ 600) → ndTot F n ≤ 700 * n
  | 0, _ => Nat.le_refl _
  | n + 1, h => by
    have h1 := ndTot_sz F n (fun i hi => h i (by omega))
    have h2 := h n (by omega)
    show ndTot F n + ((F n).p.size + (F n).d.size) ≤ _
    omega
theorem ndF_leD (L : List NdI) (hL : L.length ≤ 10) (h : ∀ p ∈ L, p.p.size ≤ 100 ∧ p.d.size ≤ 600) : NdLe (ndF L) L.length := by
  have := ndTot_sz (ndF L) L.length (fun i hi => ndF_sz L h hi)
  exact ⟨by omega, by omega⟩
theorem ndF_all (L : List NdI) : (List.range L.length).map (ndF L) = L := by
  apply List.ext_getElem
  · simp
  · intro i h1 h2
    simp [ndF, h2]
theorem rtD_le {s : ByteArray} {L : List NdI} (hs : s.size ≤ 1048576) (h : rtD s = some L) : NdLe (ndF L) L.length := by
  cases hn : numI s with
  | none => rw [rtD_no1 hn] at h; cases h
  | some p =>
    obtain ⟨n, r⟩ := p
    have hr := (numI_bd hn).2
    by_cases h4 : n ≤ 40
    · cases h2 : nodsI r n with
      | none => rw [rtD_no3 hn h2] at h; cases h
      | some q =>
        obtain ⟨L', r'⟩ := q
        by_cases h3 : r' = ⟨#[]⟩ ∧ ndR (ndF L') n
        · obtain ⟨rfl, h5⟩ := h3
          rw [rtD_yes hn h4 h2 h5] at h
          cases h
          exact nodsI_le (by omega) h2
        · rw [rtD_no4 hn h2 h3] at h; cases h
    · rw [rtD_no2 hn h4] at h; cases h
theorem pt_size (s : ByteArray) (h : s.size ≤ 600) : (putTextOut s).size ≤ s.size + 10 := by
  have h1 := pnB_size (n := s.size) (by omega)
  show (pnB s.size ++ s).size ≤ _
  rw [ByteArray.size_append]; omega
theorem txB_small {F : Nat → NdI} {n i : Nat} (hn : n ≤ 40) (hi : i ≤ n) (hs : ∀ j, j < n → (F j).p.size ≤ 100 ∧ (F j).d.size ≤ 600) (hm : ∀ j, j < n → 0 ≤ (F j).m ∧ (F j).m ≤ 511) : (txB F n i).size ≤ 10 + i * 740 := by
  induction i with
  | zero => have := pnB_size (n := n) (by omega); show (pnB n).size ≤ _; omega
  | succ i ih =>
    have h1 := ih (by omega)
    obtain ⟨h2, h3⟩ := hs i (by omega)
    have h4 := hm i (by omega)
    have h5 := pt_size _ (by omega : (F i).p.size ≤ 600)
    have h6 := pt_size _ h3
    cases hr : (F i).r with
    | true =>
      have h7 := pnB_size (n := 2 * (F i).m.toNat + 1) (by omega)
      rw [txB_dir hr, ByteArray.size_append, ByteArray.size_append]; omega
    | false =>
      have h7 := pnB_size (n := 2 * (F i).m.toNat) (by omega)
      rw [txB_file hr, ByteArray.size_append, ByteArray.size_append, ByteArray.size_append]; omega
theorem txV_size (L : List NdI) (hL : L.length ≤ 10) (h : ∀ p ∈ L, p.p.size ≤ 100 ∧ p.d.size ≤ 600) : (txV (ndF L) L.length).size ≤ 100000 := by
  by_cases hr : ndR (ndF L) L.length
  · rw [txV_yes hr]
    have := txB_small (F := ndF L) (n := L.length) (i := L.length) (by omega) (Nat.le_refl _) (fun j hj => ndF_sz L h hj) (fun j hj => (hr.2 j hj).1.2.1)
    omega
  · rw [txV_no hr]; exact Nat.zero_le _
set_option maxRecDepth 100000 in
set_option maxHeartbeats 1000000 in
theorem drawTreeText {w0 : World} {a : Option Addr} {len cap : Nat} {W : World} (hS : Src w0 a len) (hb : Below w0.heap.size w0 W) :
    Calls Tryd.prog 15 #[.slice a len cap] W fun e w' => (∃ (v : Value) (L : List NdI), L.length ≤ 10 ∧ (∀ p ∈ L, p.p.size ≤ 100 ∧ p.d.size ≤ 600) ∧ e = .returned v ∧ w'.ownsRow w0.heap.size 38 4 v L.length (ndC L)) ∧ Below w0.heap.size w0 w' := by
  go_enter Tryd.func15, Tryd.ntmps15
  go_wp2_with fail
  refine (open_any hb).mono ?_
  rintro e w1 ⟨rfl, hr, _⟩
  generalize W.heap.size = g at hr ⊢
  have HR2 := hid hr
  clear hr hb
  go_wp2_with fail
  refine (tree_drawn hS HR2.out).mono ?_
  rintro e w3 ⟨v, L, hL, rfl, hd⟩
  have HD3 := hid hd
  clear hd HR2
  go_wp2_with fail
  go_ret
  exact ⟨⟨v, L, hL, HD3.out.sz, rfl, HD3.out.own⟩, HD3.out.rd.below⟩
set_option maxRecDepth 100000 in
set_option maxHeartbeats 1000000 in
theorem drawReadTree {w0 : World} {a : Option Addr} {len cap : Nat} {W : World} (hS : Src w0 a len) (hb : Below w0.heap.size w0 W) :
    Calls Tryd.prog 21 #[.slice a len cap] W fun e w' => (∃ t : ByteArray, t.size ≤ 200000 ∧ e = .returned (.string t)) ∧ Below w0.heap.size w0 w' := by
  go_enter Tryd.func21, Tryd.ntmps21
  go_wp2_with fail
  refine (open_any hb).mono ?_
  rintro e w1 ⟨rfl, hr, _⟩
  generalize W.heap.size = g at hr ⊢
  have HR2 := hid hr
  clear hr hb
  go_wp2_with fail
  refine (tree_drawn hS HR2.out).mono ?_
  rintro e w3 ⟨v, L, hL, rfl, hd⟩
  have HD3 := hid hd
  have hF := ndF_leD L hL hd.sz
  have hsz : (txV (ndF L) L.length).size ≤ 100000 := txV_size L hL hd.sz
  have HT := hid (fun w h => stx_any v L.length (ndF L) w hF h)
  generalize txV (ndF L) L.length = s at hsz HT
  clear hd HR2
  go_wp2_with fail
  refine (HT.out _ (own4_arg HD3.out.own)).mono ?_
  rintro e w4 ⟨rfl, hb4⟩
  have HR4 := hid (HD3.out.rd.past hb4)
  clear hb4 HT HD3 hF
  go_wp2_with fail
  refine (hurt_any hS HR4.out s (by omega)).mono ?_
  rintro e w5 ⟨⟨t, ht, rfl⟩, hr5⟩
  go_wp2_with fail
  go_ret
  exact ⟨⟨t, by omega, rfl⟩, hr5.rd.below⟩
end Go.Proofs.YtadimakdjndcdaeDoor
