/-
  What RangeDecode of the code answers where the bytes are there for all that is asked.
-/
import Derived.Test.YtmckchklebohmacDecB
import Derived.Test.YtmckchklebohmacIntsL
namespace Go.Proofs.Ytmckchklebohmac
open Go.RowKit
set_option linter.unusedVariables false
set_option linter.unusedSimpArgs false
set_option maxRecDepth 100000 in
set_option maxHeartbeats 2000000 in
theorem rdec_yes (S : ByteArray) (n : Nat) (X B : Nat → Nat) (D : Nat → DS) (v : Value) (w : World) (hs : S.size ≤ 1099511627776) (hok : startOk S) (hn : n ≤ 40000) (hX : ∀ i, i < n → X i < 512)
    (hD0 : D 0 = DS.start (code0 S) (bl (rest0 S))) (hDf : ∀ i, i ≤ n → (D i).Fine) (hD : ∀ i, i < n → (D i).ok (X i) = true ∧ (D i).go (X i) = D (i + 1) ∧ (D i).tell (X i) = B i) (hv : IArg w v n (fun i => (X i : Int))) :
    Calls Try.prog 13 #[.string S, v] w fun e w' => (∃ v', e = .returned (.tuple #[v', .bool true]) ∧ IArg w' v' n (fun i => (B i : Int))) ∧ Below w.heap.size w w' := by
  obtain ⟨i0, hi0, hz0, hz1, hz2⟩ := info_parts Try.infI64
  have HV : Hid (IArg w v n (fun i => (X i : Int))) := hv
  have HSD : Hid (∀ w, Calls Try.prog 37 #[.string S] w fun e w' => (∃ g, e = .returned (.tuple #[.pointer (some ⟨g, 0, none⟩), .bool true]) ∧ w.heap.size ≤ g ∧ DecAt w' g (D 0)) ∧ Below w.heap.size w w') := fun w => by rw [hD0]; exact startD_yes S w hs hok
  have HNX : Hid (∀ i w g, i < n → DecAt w g (D i) → Calls Try.prog 38 #[.pointer (some ⟨g, 0, none⟩), .int .i64 ((X i : Nat) : Int)] w fun e w' => e = .returned (.tuple #[.int .i64 ((B i : Nat) : Int), .bool true]) ∧ DecAt w' g (D (i + 1)) ∧ w.grownBy w' (some g)) := fun i w g hi h => by
    obtain ⟨h1, h2, h3⟩ := hD i hi
    have := dnext_any (hDf i (by omega)) h (hX i hi)
    rwa [h1, h2, h3] at this
  have HXX : Hid (∀ i, i < n → X i < 512) := hX
  have HC : Hid (∀ (x : Nat) w, x < 512 → Calls Try.prog 31 #[.int .i64 (x : Int)] w fun e w' => e = .returned (.bool true) ∧ w' = w) := fun x w h => isCtx_yes (x : Int) w (by omega) (by omega)
  obtain ⟨a, c, rfl, hnc, _⟩ := hv
  have hnI : ¬ (40000 : Int) < (n : Int) := by omega
  obtain ⟨M, hM⟩ : ∃ M, M = madeCells (Value.int .i64 0).cells (((n : Nat) : Int).toNat * i0.size) := ⟨_, rfl⟩
  have hMs : M.size = n := by rw [hM, size_madeCells, hz1]; simp
  have hmk : ∀ W : World, (Instr.makeSlice 28 (.int .i64 (n : Int)) (.int .i64 (n : Int))).run Try.prog W = .ok (.slice (some ⟨W.heap.size, 0, none⟩) n n) (W.alloc (.cells M 2)) := fun W => by
    have h := run_make (P := Try.prog) W 28 2 i0 (.int .i64 0) Try.underlying28 hi0 hz0 .i64 .i64 (n : Int) (n : Int) (by omega) (by omega) (by rw [hz2]; omega) (by omega)
    rw [← hM] at h
    simpa using h
  have HMS : Hid (M.size = n) := hMs
  clear hM hMs hD hDf hD0 hX hs hok hnc
  go_enter Try.func13, Try.ntmps13
  go_wp2_with fail
  go_loopw [20] (fun v wr => ∃ i : Nat, i ≤ n ∧ v = .int .i64 (i : Int) ∧ wr = w) (fun v _ => n - intOfI v)
  case atStart => exact ⟨0, by omega, rfl, rfl⟩
  case round =>
    obtain ⟨i, hi, rfl, hw⟩ := hrel
    subst hw
    by_cases hlt : i < n
    · have hltI : (i : Int) < (n : Int) := by omega
      obtain ⟨b1, d1, e1, _, k1⟩ := HV.out
      cases e1
      obtain ⟨g1, rfl, r1⟩ := k1 (by omega)
      have x1 := r1.c i hlt
      have hx := HXX.out i hlt
      generalize X i = x at x1 hx
      clear r1 k1
      go_wp2_with fail
      refine (HC.out x _ hx).mono ?_
      rintro e w1 ⟨rfl, hw⟩
      subst hw
      go_wp2_with fail
      go_roundw
      case rel => exact ⟨i + 1, by omega, by go_num, trivial⟩
      case measure => simp [intOfI]; omega
    · obtain rfl : i = n := by omega
      rename World => w
      go_wp2_with fail
      refine (HSD.out _).mono ?_
      rintro e w1 ⟨⟨gd, rfl, hgd, hda⟩, hb1⟩
      have HDA : Hid (DecAt w1 gd (D 0) ∧ Below w.heap.size w w1 ∧ w.heap.size ≤ gd) := ⟨hda, hb1, hgd⟩
      clear hda hb1 hgd HSD
      go_wp2_with fail
      obtain ⟨gl, hgl⟩ : ∃ gl, gl = w1.heap.size := ⟨_, rfl⟩
      have hgdl : gd < gl := by obtain ⟨R, C, h, _⟩ := HDA.out.1; have := h.lt; omega
      have HNE : Hid (gd < gl) := hgdl
      have H0 : Hid (DecAt (w1.alloc (.cells M 2)) gd (D 0) ∧ (w1.alloc (.cells M 2)).heap[gl]? = some (.cells M 2 (0, 0)) ∧ M.size = i ∧ (∀ j, j < 0 → M[j]? = some (.int .i64 ((B j : Nat) : Int))) ∧ Below w.heap.size w (w1.alloc (.cells M 2))) := by
        refine ⟨?_, by rw [hgl]; exact heap_alloc_new _ _, HMS.out, fun j hj => absurd hj (by omega), HDA.out.2.1.alloc HDA.out.2.1.size _⟩
        obtain ⟨R, C, h, h2⟩ := HDA.out.1
        exact ⟨R, C, h.of_row (Below.heap_alloc _ _ _ h.lt), h2⟩
      have HGL : Hid (w.heap.size ≤ gl) := Nat.le_trans HDA.out.2.2 (Nat.le_of_lt hgdl)
      have HGD : Hid (w.heap.size ≤ gd) := HDA.out.2.2
      rw [← hgl]
      clear hgl hgdl HDA hmk
      go_loopw [40] (fun v wr => ∃ (j : Nat) (L : Array Value), j ≤ i ∧ v = .int .i64 (j : Int) ∧ Hid (DecAt wr gd (D j) ∧ wr.heap[gl]? = some (.cells L 2 (0, 0)) ∧ L.size = i ∧ (∀ k, k < j → L[k]? = some (.int .i64 ((B k : Nat) : Int))) ∧ Below w.heap.size w wr)) (fun v _ => i - intOfI v)
      case atStart => exact ⟨0, M, by omega, rfl, H0⟩
      case round =>
        clear H0
        obtain ⟨j, L, hj, rfl, HS⟩ := hrel
        by_cases hlt : j < i
        · have hltI : (j : Int) < (i : Int) := by omega
          obtain ⟨b1, d1, e1, _, k1⟩ := HV.out.on HS.out.2.2.2.2
          cases e1
          obtain ⟨g1, rfl, r1⟩ := k1 (by omega)
          have x1 := r1.c j hlt
          have HN : Hid (Calls Try.prog 38 #[.pointer (some ⟨gd, 0, none⟩), .int .i64 ((X j : Nat) : Int)] wr fun e w' => e = .returned (.tuple #[.int .i64 ((B j : Nat) : Int), .bool true]) ∧ DecAt w' gd (D (j + 1)) ∧ wr.grownBy w' (some gd)) := HNX.out j wr gd hlt HS.out.1
          generalize X j = x at x1 HN
          clear r1 k1
          go_wp2_with fail
          refine HN.out.mono ?_
          rintro e w5 ⟨rfl, hd5, hg5⟩
          have hr5 : w5.heap[gl]? = some (.cells L 2 (0, 0)) := (hg5.block gl (Array.getElem?_eq_some_iff.1 HS.out.2.1).1 (by intro e; have := Option.some.inj e; have := HNE.out; omega)).trans HS.out.2.1
          have hb5 : Below w.heap.size w w5 := HS.out.2.2.2.2.grown hg5 HS.out.2.2.2.2.size (fun k hk => by have := Option.some.inj hk; have := HGD.out; omega)
          have hLj : L[j]? = some L[j]! := by rw [getElem!_pos L j (by rw [HS.out.2.2.1]; omega)]; exact Array.getElem?_eq_getElem (by rw [HS.out.2.2.1]; omega)
          have y0 : w5.cell? ⟨gl, j, none⟩ = some L[j]! := (cell_of_row w5 gl j _ _ _ hr5).trans hLj
          have z0 := frozen_of_row w5 gl j _ _ hr5
          generalize L[j]! = ov at y0
          have HN5 : Hid (DecAt (w5.setCell ⟨gl, j, none⟩ (.int .i64 ((B j : Nat) : Int))) gd (D (j + 1)) ∧ (w5.setCell ⟨gl, j, none⟩ (.int .i64 ((B j : Nat) : Int))).heap[gl]? = some (.cells (L.setIfInBounds j (.int .i64 ((B j : Nat) : Int))) 2 (0, 0)) ∧ (L.setIfInBounds j (.int .i64 ((B j : Nat) : Int))).size = i ∧ (∀ k, k < j + 1 → (L.setIfInBounds j (.int .i64 ((B j : Nat) : Int)))[k]? = some (.int .i64 ((B k : Nat) : Int))) ∧ Below w.heap.size w (w5.setCell ⟨gl, j, none⟩ (.int .i64 ((B j : Nat) : Int)))) := by
            refine ⟨?_, heap_setCell_same _ _ _ _ _ _ hr5, by rw [Array.size_setIfInBounds]; exact HS.out.2.2.1, fun k hk => ?_, hb5.setCell (p := ⟨gl, j, none⟩) HGL.out _⟩
            · obtain ⟨R, C, h, h2⟩ := hd5
              exact ⟨R, C, h.of_row (heap_setCell_other _ _ _ _ (by show gd ≠ gl; have := HNE.out; omega)), h2⟩
            · by_cases e : k = j
              · subst e; rw [Array.getElem?_setIfInBounds_self_of_lt (by rw [HS.out.2.2.1]; omega)]
              · rw [Array.getElem?_setIfInBounds_ne (by omega)]; exact HS.out.2.2.2.1 k (by omega)
          clear hd5 hg5 hr5 hb5 hLj HS HN x1
          go_wp2_with fail
          go_roundw
          case rel => exact ⟨j + 1, _, by omega, by go_num, HN5⟩
          case measure => simp [intOfI]; omega
        · obtain rfl : j = i := by omega
          have HF : Hid (IArg wr (.slice (some ⟨gl, 0, none⟩) j j) j (fun i => ((B i : Nat) : Int)) ∧ Below w.heap.size w wr) := by
            refine ⟨⟨_, _, rfl, Nat.le_refl _, fun h0 => ⟨gl, rfl, (Array.getElem?_eq_some_iff.1 HS.out.2.1).1, fun k hk => ?_⟩⟩, HS.out.2.2.2.2⟩
            rw [cell_of_row wr gl k _ _ _ HS.out.2.1]; exact HS.out.2.2.2.1 k hk
          clear HS
          go_wp2_with fail
          go_ret2
          exact ⟨⟨_, rfl, HF.out.1⟩, HF.out.2⟩
end Go.Proofs.Ytmckchklebohmac
