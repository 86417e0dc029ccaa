/-
  An extension, with what a sort asks of it.
-/
import Derived.Test.YtfegoldjejlcaaaDoorPthC2
import Derived.Test.YtfegoldjejlcaaaDoorGrD
namespace Go.Proofs.YtfegoldjejlcaaaDoor
open Go.RowKit
set_option linter.unusedVariables false
set_option linter.unusedSimpArgs false
set_option maxRecDepth 100000 in
set_option maxHeartbeats 1000000 in
theorem namesOfD_any (s : ByteArray) (w : World) (hs : s.size ≤ 4294967000) (hm : MxL w) :
    Calls Tryd.prog 43 #[.string s] w fun e w' => (∃ g c, e = .returned (.slice (some ⟨g, 0, none⟩) (pcsB s).length c) ∧ w.heap.size ≤ g ∧ StRow w' g (pcsB s)) ∧ GrD w w' := by
  have hN : (pcsB s).length ≤ min 7 (s.size + 1) := by
    have := Lib.splitB_length_le ⟨#[47]⟩ 0 (min 7 (s.size + 1) - 1) s
    unfold pcsB; omega
  obtain ⟨m, hm⟩ := hm
  have HS : Hid (Calls Tryd.prog 78 #[.string s, .string ⟨#[47]⟩, .int .i64 7] w fun e w' => e = .returned (.slice (some ⟨w.heap.size, 0, none⟩) (pcsB s).length (min 7 (s.size + 1))) ∧ w' = w.alloc (.cells (Lib.cellsOf (pcsB s) (min 7 (s.size + 1))) 9)) :=
    Tryd.strings_SplitN s ⟨#[47]⟩ 7 m w (by omega) hm (by decide) (by decide) (by decide)
  go_enter Tryd.func43, Tryd.ntmps43
  go_wp2_with fail
  refine HS.out.mono ?_
  rintro e w1 ⟨rfl, hw⟩
  go_wp2_with fail
  go_ret
  subst hw
  exact ⟨⟨_, _, rfl, Nat.le_refl _, strow_new w _ _ _ hN⟩, (GrD.refl _).alloc _⟩
set_option maxRecDepth 100000 in
set_option maxHeartbeats 1000000 in
theorem pathOkD_any (s : ByteArray) (w : World) (hs : s.size ≤ 1048576) (hm : MxL w) :
    Calls Tryd.prog 50 #[.string s] w fun e w' => e = .returned (.bool (pathB s.toList)) ∧ GrD w w' := by
  have HN : Hid (Calls Tryd.prog 43 #[.string s] w fun e w' => (∃ g c, e = .returned (.slice (some ⟨g, 0, none⟩) (pcsB s).length c) ∧ w.heap.size ≤ g ∧ StRow w' g (pcsB s)) ∧ GrD w w') := namesOfD_any s w (by omega) hm
  have HS : Hid (∀ i (h : i < (pcsB s).length) w, Calls Tryd.prog 83 #[.string (pcsB s)[i]] w fun e w' => e = .returned (.bool (nameB (pcsB s)[i].toList)) ∧ w' = w) := fun i h w => isname_any _ w (pcsB_size s i h hs)
  have HP : Hid (pathB s.toList = (decide ((pcsB s).length ≤ 6) && (pcsB s).all fun p => nameB p.toList)) := by
    rw [Lib.toList_data]
    have h := pathB_pcs s
    simp only [← Lib.toList_data] at h ⊢
    exact h
  have hl := pcsB_len s
  generalize pcsB s = P at HN HS HP hl
  generalize pathB s.toList = R at HP ⊢
  go_enter Tryd.func50, Tryd.ntmps50
  go_wp2_with fail
  refine HN.out.mono ?_
  rintro e w1 ⟨⟨g, c, rfl, hg, hrow⟩, hb1⟩
  by_cases h6 : 6 < P.length
  · have h6I : (6 : Int) < P.length := by omega
    obtain rfl : R = false := by rw [HP.out]; simp; omega
    go_wp2_with fail
    go_ret
    exact ⟨rfl, hb1⟩
  · have h6I : ¬ (6 : Int) < P.length := by omega
    have HROW : Hid (StRow w1 g P) := hrow
    clear hrow
    go_wp2_with fail
    go_loopw [13] (fun v wr => ∃ i : Nat, i ≤ P.length ∧ v = .int .i64 (i : Int) ∧ Hid (∀ j (h : j < P.length), j < i → nameB P[j].toList = true) ∧ wr = w1) (fun v _ => P.length - (nIntOf v).toNat)
    case atStart => exact ⟨0, by omega, rfl, fun j _ hj => absurd hj (by omega), rfl⟩
    case round =>
      obtain ⟨i, hi, rfl, HA, hw⟩ := hrel
      subst hw
      by_cases hlt : i < P.length
      · have hltI : (i : Int) < (P.length : Int) := by omega
        have x0 := HROW.out.c i hlt
        have HI := HS.out i hlt
        have HII : Hid _ := HI
        clear HI
        go_wp2_with fail
        refine (HII.out _).mono ?_
        rintro e w2 ⟨rfl, hw⟩
        subst hw
        cases ho : nameB P[i].toList with
        | true =>
          have HA2 : Hid (∀ j (h : j < P.length), j < i + 1 → nameB P[j].toList = true) := fun j h hj => by
            by_cases e : j = i
            · subst e; exact ho
            · exact HA.out j h (by omega)
          clear ho HA
          go_wp2_with fail
          go_roundw
          case rel => exact ⟨i + 1, by omega, by go_num, HA2, trivial⟩
          case measure => simp [nIntOf]; omega
        | false =>
          obtain rfl : R = false := by
            rw [HP.out]
            have : (P.all fun p => nameB p.toList) = false := by
              rw [Bool.eq_false_iff]; intro c
              have := List.all_eq_true.1 c P[i] (List.getElem_mem hlt)
              rw [ho] at this; cases this
            rw [this]; simp
          clear ho HA
          go_wp2_with fail
          go_ret
          exact ⟨rfl, hb1⟩
      · obtain rfl : i = P.length := by omega
        obtain rfl : R = true := by
          rw [HP.out]
          have : (P.all fun p => nameB p.toList) = true := List.all_eq_true.2 fun p hp => by
            obtain ⟨j, hj, rfl⟩ := List.getElem_of_mem hp
            exact HA.out j hj hj
          rw [this]; simp; omega
        go_wp2_with fail
        go_ret
        exact ⟨rfl, hb1⟩
set_option maxHeartbeats 4000000 in
set_option maxRecDepth 100000 in
theorem lcloneD_any (s : ByteArray) (w : World) (hlim : s.size ≤ 281474976710656) :
    Calls Tryd.prog 84 #[.string s] w fun e w' => e = .returned (.string s) ∧ GrD w w' := by
  by_cases h0 : s.size = 0
  · have hs : s = ⟨#[]⟩ := by
      apply ByteArray.ext
      exact Array.eq_empty_of_size_eq_zero h0
    subst hs
    go_enter Tryd.func84, Tryd.ntmps84
    go_wp2
    go_ret
    exact ⟨rfl, GrD.refl _⟩
  · obtain ⟨i0, hi, hz0, hz1, hz2⟩ := info_parts Tryd.inf5
    have hinfo : (Tryd.prog.info? 5).map (·.size) = some 1 := by rw [hi]; simp [hz1]
    have hco : Tryd.prog.cellsOf 5 = 1 := by simp [Program.cellsOf, hi, hz1]
    obtain ⟨M, hM⟩ : ∃ M, M = madeCells (Value.int .u8 0).cells (((s.size : Nat) : Int).toNat * i0.size) := ⟨_, rfl⟩
    have hMs : M.size = s.size := by rw [hM, size_madeCells, hz1]; simp
    have hmk : ∀ W : World, (Instr.makeSlice 22 (.int .i64 (s.size : Int)) (.int .i64 (s.size : Int))).run Tryd.prog W = .ok (.slice (some ⟨W.heap.size, 0, none⟩) s.size s.size) (W.alloc (.cells M 5)) := fun W => by
      have h := run_make (P := Tryd.prog) W 22 5 i0 (.int .u8 0) Tryd.underlying22 hi hz0 .i64 .i64 (s.size : Int) (s.size : Int) (by omega) (by omega) (by rw [hz2]; omega) (by omega)
      rw [← hM] at h
      simpa using h
    clear hM
    have hcp := Lib.run_copy_row_string (P := Tryd.prog) (w.alloc (.cells M 5)) 22 9 3 5 w.heap.size 0 s.size s.size s M 5 Tryd.underlying22 hinfo (heap_alloc_new w _) (Nat.le_refl _) (by omega)
    obtain ⟨Y, hY⟩ : ∃ Y, Y = (M.toList.take 0 ++ Lib.byteCells s.data.toList ++ M.toList.drop (0 + s.size)).toArray := ⟨_, rfl⟩
    rw [← hY] at hcp
    have hYl : Y.toList = Lib.byteCells s.data.toList := by
      rw [hY, List.toList_toArray, List.take_zero, List.nil_append, List.drop_of_length_le (by rw [Array.length_toList]; omega), List.append_nil]
    have hYs : Y.size = s.size := by rw [← Array.length_toList, hYl, Lib.byteCells_length, ← Lib.size_eq]
    have hgY : ((w.alloc (.cells M 5)).setRow w.heap.size Y).heap[w.heap.size]? = some (.cells Y 5 (0, 0)) := setRow_heap _ _ M _ 5 (0, 0) (heap_alloc_new w _)
    have hne : s.data.toList ≠ [] := fun e => h0 (by rw [Lib.size_eq, e]; rfl)
    have hUS := Lib.run_unsafeString_row (P := Tryd.prog) ((w.alloc (.cells M 5)).setRow w.heap.size Y) 129 3 9 5 Tryd.underlying129 hco w.heap.size Y.size (by unfold World.shape?; rw [hgY]) s.data.toList hne (by rw [← Lib.size_eq]; omega) (by rw [← Lib.size_eq]; omega)
      (fun j x hx => Lib.cells_of_row hgY Y.size j _ (by rw [List.take_of_length_le (by rw [Array.length_toList]; exact Nat.le_refl _), hYl]; simp [Lib.byteCells, hx]))
    rw [← Lib.size_eq] at hUS
    clear hY
    go_enter Tryd.func84, Tryd.ntmps84
    go_wp2
    go_ret
    have hb1 : Below w.heap.size w (w.alloc (.cells M 5)) := (Below.refl _ w).alloc (Nat.le_refl _) _
    have hb2 : Below w.heap.size (w.alloc (.cells M 5)) ((w.alloc (.cells M 5)).setRow w.heap.size Y) := ⟨rfl, rfl, rfl, by simp, fun k hk => setRow_other _ _ _ _ (by omega)⟩
    have hfz : ∀ (W : World) a n, (W.freeze a n).drawn = W.drawn := fun W a n => by unfold World.freeze; first | rfl | (split <;> rfl)
    exact ⟨rfl, Lib.below_freeze (hb1.trans hb2) (p := ⟨w.heap.size, 0, none⟩) (Nat.le_refl _) _, by rw [hfz, setRow_drawn]; exact Nat.le_refl _⟩

theorem cloneD_any (s : ByteArray) (w : World) (hlim : s.size ≤ 281474976710656) :
    Calls Tryd.prog 51 #[.string s] w fun e w' => e = .returned (.string s) ∧ GrD w w' := by
  go_enter Tryd.func51, Tryd.ntmps51
  go_wp2_with (go_at_call 84; refine (lcloneD_any _ _ hlim).mono ?_; rintro e w' ⟨rfl, hb⟩)
  go_ret
  exact ⟨rfl, hb⟩
set_option maxRecDepth 100000 in
set_option maxHeartbeats 2000000 in
theorem extD_any (s : ByteArray) (w : World) (hs : s.size ≤ 1048576) (hm : MxL w) :
    Calls Tryd.prog 26 #[.string s] w fun e w' => e = .returned (.string (extB s)) ∧ GrD w w' := by
  have HC : Hid (∀ w, Calls Tryd.prog 49 #[.string s, .int .u8 47] w fun e w' => e = .returned (.int .i64 (cutI s)) ∧ w' = w) := fun w => Tryd.strings_LastIndexByte s 47 (by omega) w
  have HD : Hid (∀ (x : ByteArray) w, x.size ≤ 1048576 → Calls Tryd.prog 49 #[.string x, .int .u8 46] w fun e w' => e = .returned (.int .i64 (dotI x)) ∧ w' = w) := fun x w h => Tryd.strings_LastIndexByte x 46 (by omega) w
  have HP : Hid (Calls Tryd.prog 50 #[.string s] w fun e w' => e = .returned (.bool (pathB s.toList)) ∧ GrD w w') := pathOkD_any s w hs hm
  have HK : Hid (∀ (x : ByteArray) w, x.size ≤ 1048576 → Calls Tryd.prog 51 #[.string x] w fun e w' => e = .returned (.string x) ∧ GrD w w') := fun x w h => cloneD_any x w (by omega)
  obtain ⟨h1, h2⟩ := cut_lo s
  clear hm
  cases hp : pathB s.toList with
  | false =>
    have e : extB s = ByteArray.empty := by unfold extB; rw [hp]; rfl
    rw [e]
    rw [hp] at HP
    clear hp e
    go_enter Tryd.func26, Tryd.ntmps26
    go_wp2_with fail
    refine HP.out.mono ?_
    rintro e w2 ⟨rfl, hb⟩
    go_wp2_with fail
    go_ret
    exact ⟨rfl, hb⟩
  | true =>
    have e : extB s = exB (lastN s) := by unfold extB; rw [hp]; rfl
    rw [e]
    rw [hp] at HP
    clear hp e
    obtain ⟨m, hm⟩ : ∃ m : Nat, m = (cutI s + 1).toNat := ⟨_, rfl⟩
    have hmx : IntKind.i64.wrap (cutI s + 1) = (m : Int) := by rw [IntKind.wrap_i64]; omega
    have hms : (m : Int) ≤ (s.size : Int) := by omega
    obtain ⟨n, hn⟩ : ∃ n, n = s.extract m s.size := ⟨_, rfl⟩
    have hl : lastN s = n := by unfold lastN; rw [← hm, hn]
    rw [hl]
    have hnl : n.size ≤ 1048576 := by rw [hn, ByteArray.size_extract]; omega
    have hn2 : s.extract m s.size = n := hn.symm
    obtain ⟨h3, h4⟩ := lastIdx_lo n 46 n.size
    change -1 ≤ dotI n at h3
    change dotI n < _ at h4
    have HX : Hid ((dotI n ≤ 0 → exB n = ByteArray.empty) ∧ ∀ j : Nat, dotI n = j → 0 < j → exB n = n.extract (j + 1) n.size) := by
      refine ⟨fun h => by unfold exB; rw [if_pos h]; rfl, fun j hj h0 => ?_⟩
      unfold exB; rw [if_neg (by omega), hj]; rfl
    have HDn := HD.out n
    have HDD : Hid _ := HDn
    clear hm hn hl HDn HD
    generalize cutI s = C at HC hmx h1 h2
    generalize dotI n = D at HDD h3 h4 HX
    generalize exB n = X at HX ⊢
    by_cases h0 : D ≤ 0
    · obtain rfl := HX.out.1 h0
      go_enter Tryd.func26, Tryd.ntmps26
      go_wp2_with fail
      refine HP.out.mono ?_
      rintro e w2 ⟨rfl, hb⟩
      go_wp2_with fail
      refine (HC.out _).mono ?_
      rintro e w1 ⟨rfl, hw⟩
      subst hw
      go_wp2_with fail
      refine (HDD.out _ hnl).mono ?_
      rintro e w1 ⟨rfl, hw⟩
      subst hw
      go_wp2_with fail
      go_ret
      exact ⟨rfl, hb⟩
    · obtain ⟨j, rfl⟩ : ∃ j : Nat, D = (j : Int) := ⟨D.toNat, by omega⟩
      obtain rfl := HX.out.2 j rfl (by omega)
      have hj1 : (j : Int) + 1 ≤ (n.size : Int) := by omega
      have hxs : (n.extract (j + 1) n.size).size ≤ 1048576 := by rw [ByteArray.size_extract]; omega
      clear h3 h4 HX
      go_enter Tryd.func26, Tryd.ntmps26
      go_wp2_with fail
      refine HP.out.mono ?_
      rintro e w2 ⟨rfl, hb⟩
      go_wp2_with fail
      refine (HC.out _).mono ?_
      rintro e w1 ⟨rfl, hw⟩
      subst hw
      go_wp2_with fail
      refine (HDD.out _ hnl).mono ?_
      rintro e w1 ⟨rfl, hw⟩
      subst hw
      go_wp2_with fail
      refine (HK.out _ _ hxs).mono ?_
      rintro e w3 ⟨rfl, hb3⟩
      go_wp2_with fail
      go_ret
      exact ⟨rfl, hb.trans hb3⟩
end Go.Proofs.YtfegoldjejlcaaaDoor
