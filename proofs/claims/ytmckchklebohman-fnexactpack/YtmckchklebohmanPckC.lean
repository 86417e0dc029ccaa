/-
  Packs: the code's and the specification's.
-/
import Derived.Test.YtmckchklebohmanChoI
import Derived.Test.YtmckchklebohmanChoS2
import Derived.Test.YtmckchklebohmanChoN
import Derived.Test.YtmckchklebohmanRngSr
import Derived.Test.YtmckchklebohmanRngZ
import Derived.Test.YtmckchklebohmanPutc
namespace Go.Proofs.Ytmckchklebohman
open Go.RowKit
set_option linter.unusedVariables false
set_option linter.unusedSimpArgs false
def chF (L : List (Nat × Nat)) (i : Nat) : Int × Int := (((L.getD i (0, 0)).1 : Int), ((L.getD i (0, 0)).2 : Int))
theorem chF_at {L : List (Nat × Nat)} {i : Nat} (h : i < L.length) : chF L i = ((L[i].1 : Int), (L[i].2 : Int)) := by
  unfold chF; rw [List.getD_eq_getElem?_getD, List.getElem?_eq_getElem h]; rfl
theorem chL_chF (L : List (Nat × Nat)) : chL (chF L) L.length = L := by
  apply List.ext_getElem
  · simp [chL]
  · intro i h1 h2
    simp only [chL, List.getElem_map, List.getElem_range, chF_at h2, Int.toNat_natCast]
theorem own_form2' {w : World} {B n : Nat} {v : Value} {xs : List Value} (h : w.ownsRow B 61 2 v n xs) (h0 : 0 < n) :
    ∃ g cap cur, v = .slice (some ⟨g, 0, none⟩) n cap ∧ B ≤ g ∧ w.heap[g]? = some (.cells cur 61 (0, 0)) ∧ 2 * n ≤ cur.size ∧ ∀ (j : Nat) (u : Value), xs[j]? = some u → cur[j]? = some u := by
  obtain ⟨hl, ⟨_, h1⟩ | ⟨g, cap, cur, h1, h2, h3, h4, h5, h6, h7⟩⟩ := h
  · omega
  · refine ⟨g, cap, cur, h1, h2, h3, by omega, fun j u hj => ?_⟩
    rw [← h7, List.getElem?_take] at hj
    split at hj
    · simpa using hj
    · cases hj
theorem own_zero2' {w : World} {B : Nat} {v : Value} {xs : List Value} (h : w.ownsRow B 61 2 v 0 xs) : ∃ a c, v = .slice a 0 c := by
  obtain ⟨hl, ⟨h0, _⟩ | ⟨g, cap, cur, h1, _⟩⟩ := h
  · exact ⟨_, _, h0⟩
  · exact ⟨_, _, h1⟩
theorem own_chArg {w : World} {B : Nat} {v : Value} {L : List (Nat × Nat)} (h : w.ownsRow B 61 2 v L.length (cC L)) : ChArg w v L.length (chF L) := by
  by_cases h0 : 0 < L.length
  · obtain ⟨g, cap, cur, rfl, _, h3, _, h5⟩ := own_form2' h h0
    refine ⟨_, _, rfl, fun _ => ⟨g, rfl, (Array.getElem?_eq_some_iff.1 h3).1, fun i hi => ?_, fun i hi => ?_⟩⟩
    · rw [chF_at hi]; exact (cell_of_row _ _ _ _ _ _ h3).trans (h5 _ _ (cC_at L i hi).1)
    · rw [chF_at hi]; exact (cell_of_row _ _ _ _ _ _ h3).trans (h5 _ _ (cC_at L i hi).2)
  · have e : L.length = 0 := by omega
    rw [e] at h ⊢
    obtain ⟨a, c, rfl⟩ := own_zero2' h
    exact ⟨a, c, rfl, fun h => absurd h (by omega)⟩
theorem choS_chOk {s : ByteArray} (hs : s.size ≤ 4000) : chOk (chF (choS s)) (choS s).length :=
  ⟨by have := choS_len hs; omega, fun i hi => by
    rw [chF_at hi]
    have h := choS_ok hs (choS s)[i] (List.getElem_mem hi)
    exact ⟨⟨by show (0 : Int) ≤ ((choS s)[i].1 : Int); omega, by show ((choS s)[i].1 : Int) < 512; omega⟩, by show ((choS s)[i].2 : Int) = 0 ∨ ((choS s)[i].2 : Int) = 1; omega⟩⟩
/-- the bytes behind a pack's number -/
def pckR (s : ByteArray) : ByteArray := encB (RS.start.run (choS s))
def pckB (s : ByteArray) : ByteArray := ⟨(put s.size).toArray⟩ ++ pckR s
theorem bigL_len4 (n : Nat) : (bigL n 4).length = 4 := rfl
theorem pckR_size {s : ByteArray} (hs : s.size ≤ 4000) : (pckR s).size ≤ 72005 := by
  have h1 := run_len (chF (choS s)) (choS s).length
  rw [chL_chF] at h1
  have h2 := choS_len hs
  have e : (pckR s).size = (RS.start.run (choS s)).out.length + 4 := by
    unfold pckR encB
    rw [ByteArray.size_append]
    have e1 : ∀ l : List UInt8, (⟨l.toArray⟩ : ByteArray).size = l.length := fun l => by show l.toArray.size = _; simp
    rw [e1, e1, List.length_map, bigL_len4]
  omega
theorem putB_size {n : Nat} (h : n < 18446744073709551616) : (⟨(put n).toArray⟩ : ByteArray).size ≤ 10 := by
  have := put_ten h
  show ((put n).toArray).size ≤ _
  simpa using this
set_option maxRecDepth 100000 in
set_option maxHeartbeats 600000 in
theorem spack_yes (s : ByteArray) (w : World) (hs : s.size ≤ 4000) :
    Calls Try.prog 23 #[.string s] w fun e w' => e = .returned (.tuple #[.string (pckB s), .bool true]) ∧ Below w.heap.size w w' := by
  have HC : Hid (∀ w, Calls Try.prog 18 #[.string s] w fun e w' => (∃ v, e = .returned (.tuple #[v, .bool true]) ∧ ChArg w' v (choS s).length (chF (choS s))) ∧ Below w.heap.size w w') := fun w => (schoices_any s w hs).mono (by rintro e w' ⟨⟨v, rfl, h⟩, hb⟩; exact ⟨⟨v, rfl, own_chArg h⟩, hb⟩)
  have HR : Hid (∀ v w, ChArg w v (choS s).length (chF (choS s)) → Calls Try.prog 43 #[v] w fun e w' => e = .returned (.string (pckR s)) ∧ Below w.heap.size w w') := fun v w h => by
    obtain ⟨a, c, rfl, hr⟩ := h
    have h2 := sencode_any a c _ _ w (choS_chOk hs).1 hr (choS_chOk hs).2
    rw [chL_chF] at h2
    exact h2
  have HL : Hid (∀ w, Calls Try.prog 42 #[.int .i64 (s.size : Int)] w fun e w' => e = .returned (.string (⟨(put s.size).toArray⟩ : ByteArray)) ∧ Below w.heap.size w w') := fun w => by
    have hw : IntKind.u64.wrap (s.size : Int) = (s.size : Int) := by rw [IntKind.wrap_u64]; omega
    have HP : Hid (∀ w, Calls Try.prog 55 #[.int .u64 (s.size : Int)] w fun e w' => e = .returned (.string (⟨(put s.size).toArray⟩ : ByteArray)) ∧ Below w.heap.size w w') := fun w => sput_any s.size w (by omega)
    go_enter Try.func42, Try.ntmps42
    go_wp2_with fail
    refine (HP.out _).mono ?_
    rintro e w1 ⟨rfl, hb1⟩
    go_wp2_with fail
    go_ret
    exact ⟨rfl, hb1⟩
  have h1 := pckR_size hs
  have h2 := putB_size (n := s.size) (by omega)
  have HE : Hid (pckB s = (⟨(put s.size).toArray⟩ : ByteArray) ++ pckR s) := rfl
  generalize pckB s = Z at *
  generalize pckR s = Y at *
  generalize hX : (⟨(put s.size).toArray⟩ : ByteArray) = X at *
  generalize (choS s).length = N at *
  generalize chF (choS s) = F at *
  clear hs hX
  go_enter Try.func23, Try.ntmps23
  go_wp2_with fail
  refine (HC.out _).mono ?_
  rintro e w1 ⟨⟨v, rfl, ha⟩, hb1⟩
  have HA : Hid (ChArg w1 v N F) := ha
  clear ha
  go_wp2_with fail
  refine (HL.out _).mono ?_
  rintro e w2 ⟨rfl, hb2⟩
  have HA2 : Hid (ChArg w2 v N F) := HA.out.below hb2
  have hb2' := bl_trans3 hb1 hb2 hb1.size
  go_wp2_with fail
  refine (HR.out _ _ HA2.out).mono ?_
  rintro e w3 ⟨rfl, hb3⟩
  go_wp2_with fail
  go_ret2
  exact ⟨by rw [HE.out]; first | rfl | simp, bl_trans3 hb2' hb3 hb2'.size⟩
set_option maxRecDepth 100000 in
set_option maxHeartbeats 600000 in
theorem pack_yes (s : ByteArray) (w : World) (hs : s.size ≤ 4000) :
    Calls Try.prog 24 #[.string s] w fun e w' => e = .returned (.tuple #[.string (pckB s), .bool true]) ∧ Below w.heap.size w w' := by
  have HC : Hid (∀ w, Calls Try.prog 19 #[.string s] w fun e w' => (∃ v, e = .returned (.tuple #[v, .bool true]) ∧ ChArg w' v (choS s).length (chF (choS s))) ∧ Below w.heap.size w w') := fun w => (choices_any s w hs).mono (by rintro e w' ⟨⟨v, rfl, h⟩, hb⟩; exact ⟨⟨v, rfl, own_chArg h⟩, hb⟩)
  have HR : Hid (∀ v w, ChArg w v (choS s).length (chF (choS s)) → Calls Try.prog 44 #[v] w fun e w' => e = .returned (.tuple #[.string (pckR s), .bool true]) ∧ Below w.heap.size w w') := fun v w h => by
    have h2 := encode_any v _ _ w h
    obtain ⟨e1, e2⟩ := encAns_yes (choS_chOk hs)
    rw [e1, e2, chL_chF] at h2
    exact h2
  have HL : Hid (∀ w, Calls Try.prog 45 #[.int .u64 (s.size : Int)] w fun e w' => e = .returned (.string (⟨(put s.size).toArray⟩ : ByteArray)) ∧ Below w.heap.size w w') := fun w => cput_any s.size w (by omega)
  have hw : IntKind.u64.wrap (s.size : Int) = (s.size : Int) := by rw [IntKind.wrap_u64]; omega
  have h1 := pckR_size hs
  have h2 := putB_size (n := s.size) (by omega)
  have HE : Hid (pckB s = (⟨(put s.size).toArray⟩ : ByteArray) ++ pckR s) := rfl
  generalize pckB s = Z at *
  generalize pckR s = Y at *
  generalize hX : (⟨(put s.size).toArray⟩ : ByteArray) = X at *
  generalize (choS s).length = N at *
  generalize chF (choS s) = F at *
  clear hs hX
  go_enter Try.func24, Try.ntmps24
  go_wp2_with fail
  refine (HC.out _).mono ?_
  rintro e w1 ⟨⟨v, rfl, ha⟩, hb1⟩
  have HA : Hid (ChArg w1 v N F) := ha
  clear ha
  go_wp2_with fail
  refine (HR.out _ _ HA.out).mono ?_
  rintro e w2 ⟨rfl, hb2⟩
  have hb2' := bl_trans3 hb1 hb2 hb1.size
  go_wp2_with fail
  refine (HL.out _).mono ?_
  rintro e w3 ⟨rfl, hb3⟩
  go_wp2_with fail
  go_ret2
  exact ⟨by rw [HE.out]; first | rfl | simp, bl_trans3 hb2' hb3 hb2'.size⟩
set_option maxRecDepth 100000 in
theorem spack_no (s : ByteArray) (w : World) (hs : ¬ s.size ≤ 4000) :
    Calls Try.prog 23 #[.string s] w fun e w' => e = .returned (.tuple #[.string ⟨#[]⟩, .bool false]) ∧ w' = w := by
  have H : Hid (∀ w, _) := fun w => schoices_no s w hs
  clear hs
  go_enter Try.func23, Try.ntmps23
  go_wp2_with fail
  refine (H.out _).mono ?_
  rintro e w1 ⟨rfl, rfl⟩
  go_wp2_with fail
  go_ret2
  exact ⟨rfl, rfl⟩
set_option maxRecDepth 100000 in
theorem pack_no (s : ByteArray) (w : World) (hs : ¬ s.size ≤ 4000) :
    Calls Try.prog 24 #[.string s] w fun e w' => e = .returned (.tuple #[.string ⟨#[]⟩, .bool false]) ∧ w' = w := by
  have H : Hid (∀ w, _) := fun w => choices_no s w hs
  clear hs
  go_enter Try.func24, Try.ntmps24
  go_wp2_with fail
  refine (H.out _).mono ?_
  rintro e w1 ⟨rfl, rfl⟩
  go_wp2_with fail
  go_ret2
  exact ⟨rfl, rfl⟩
end Go.Proofs.Ytmckchklebohman
