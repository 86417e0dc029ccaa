/-
  The readers of data and of a piece: the code's.
-/
import Derived.Test.YtadimakdjndcdaeRdM
import Derived.Test.YtadimakdjndcdaeToPc
namespace Go.Proofs.Ytadimakdjndcdae
open Go.RowKit
set_option linter.unusedVariables false
set_option linter.unusedSimpArgs false
def datIV : Option (ByteArray × ByteArray) → Value
  | none => .tuple #[.string ⟨#[]⟩, .string ⟨#[]⟩, .bool false]
  | some (d, r) => .tuple #[.string d, .string r, .bool true]
theorem datI_numn {s : ByteArray} (h : numI s = none) : datI s = none := by
  unfold datI txt
  cases hn : num s with
  | none => rfl
  | some p =>
    obtain ⟨X, u⟩ := p
    have hx : ¬ X ≤ 1000000000000 := fun c => by rw [numI_some hn c] at h; cases h
    simp only
    rw [if_neg (fun c => hx (by have := c.1; omega))]
theorem datI_numb {s r : ByteArray} {n : Nat} (h : numI s = some (n, r)) (hb : ¬ (n ≤ 100000 ∧ n ≤ r.size)) : datI s = none := by
  unfold datI txt
  cases hn : num s with
  | none => rfl
  | some p =>
    obtain ⟨X, u⟩ := p
    have h0 := num_nn hn
    have hx : X ≤ 1000000000000 := by
      by_cases c : X ≤ 1000000000000
      · exact c
      · rw [numI_none2 hn c] at h; cases h
    rw [numI_some hn hx] at h
    simp only [Option.some.injEq, Prod.mk.injEq] at h
    obtain ⟨rfl, rfl⟩ := h
    simp only
    rw [if_neg (fun c => hb ⟨by have := c.1; omega, by rw [ByteArray.size_extract]; have := c.2; omega⟩)]
theorem datI_num {s r : ByteArray} {n : Nat} (h : numI s = some (n, r)) (h1 : n ≤ 100000) (h2 : n ≤ r.size) : datI s = some (r.extract 0 n, r.extract n r.size) := by
  unfold datI txt
  cases hn : num s with
  | none => rw [numI_none1 hn] at h; cases h
  | some p =>
    obtain ⟨X, u⟩ := p
    have h0 := num_nn hn
    have hu := num_bd hn
    have hx : X ≤ 1000000000000 := by
      by_cases c : X ≤ 1000000000000
      · exact c
      · rw [numI_none2 hn c] at h; cases h
    rw [numI_some hn hx] at h
    simp only [Option.some.injEq, Prod.mk.injEq] at h
    obtain ⟨rfl, rfl⟩ := h
    rw [ByteArray.size_extract] at h2
    simp only
    rw [if_pos ⟨by omega, by omega⟩]
    simp only
    rw [ext_mid _ _ _ (by omega)]
    have e : (s.extract u s.size).size = s.size - u := by rw [ByteArray.size_extract]; omega
    rw [e, ext_tail]
set_option maxRecDepth 100000 in
set_option maxHeartbeats 1000000 in
theorem dataOf_any (s : ByteArray) (w : World) (hs : s.size ≤ 1048576) :
    Calls Try.prog 49 #[.string s] w fun e w' => e = .returned (datIV (datI s)) ∧ Below w.heap.size w w' := by
  have HT : Hid (∀ w, Calls Try.prog 32 #[.string s] w fun e w' => e = .returned (numIV (numI s)) ∧ Below w.heap.size w w') := fun w => numOf_any s w hs
  cases hn : numI s with
  | none =>
    rw [datI_numn hn]
    rw [hn] at HT
    clear hn
    unfold numIV at HT
    go_enter Try.func49, Try.ntmps49
    go_wp2_with fail
    refine (HT.out _).mono ?_
    rintro e w1 ⟨rfl, hb1⟩
    go_wp2_with fail
    go_ret3
    exact ⟨rfl, hb1⟩
  | some p =>
    obtain ⟨n, r⟩ := p
    have hr := (numI_bd hn).2
    rw [hn] at HT
    unfold numIV at HT
    by_cases h1 : n ≤ 100000
    · have h1I : ¬ (100000 : Int) < (n : Int) := by omega
      by_cases h2 : n ≤ r.size
      · have h2I : ¬ (r.size : Int) < (n : Int) := by omega
        have h2J : (n : Int) ≤ (r.size : Int) := by omega
        rw [datI_num hn h1 h2]
        clear hn
        go_enter Try.func49, Try.ntmps49
        go_wp2_with fail
        refine (HT.out _).mono ?_
        rintro e w1 ⟨rfl, hb1⟩
        go_wp2_with fail
        go_region
        go_wp2_with fail
        go_ret3
        exact ⟨rfl, hb1.drew⟩
      · have h2I : (r.size : Int) < (n : Int) := by omega
        rw [datI_numb hn (fun c => h2 c.2)]
        clear hn
        go_enter Try.func49, Try.ntmps49
        go_wp2_with fail
        refine (HT.out _).mono ?_
        rintro e w1 ⟨rfl, hb1⟩
        go_wp2_with fail
        go_ret3
        exact ⟨rfl, hb1⟩
    · have h1I : (100000 : Int) < (n : Int) := by omega
      rw [datI_numb hn (fun c => h1 c.1)]
      clear hn
      go_enter Try.func49, Try.ntmps49
      go_wp2_with fail
      refine (HT.out _).mono ?_
      rintro e w1 ⟨rfl, hb1⟩
      go_wp2_with fail
      go_ret3
      exact ⟨rfl, hb1⟩
theorem stext_datI (s : ByteArray) (w : World) (hs : s.size ≤ 1048576) :
    Calls Try.prog 39 #[.string s] w fun e w' => e = .returned (datIV (datI s)) ∧ Below w.heap.size w w' := by
  have h := stakeText_any s w (by unfold maxLen; omega) (by omega)
  have e : textOut s = datIV (datI s) := by
    rw [datI_out]
    cases datI s with
    | none => rfl
    | some p => rfl
  rw [e] at h
  exact h
theorem results_cell_2 {P : Program} {fn : Func} {t u p : Tmp} {ty : TypeId} (h : fn.results = #[.cell p ty, .tmp t, .tmp u]) (tmps : Array Value) (w : World) (g : Nat) (t2 : TypeId) (cs : Array Value) (fr : Nat × Nat) (d : TypeDesc)
    (hp : tmps.getD p undef = .pointer (some ⟨g, 0, none⟩)) (hg : w.heap[g]? = some (.cells cs t2 fr))
    (hu : P.underlying ty = some d) (hd : (match d with | .struct _ | .array _ _ => true | _ => false) = true) (hi : (P.info? ty).map (·.size) = some cs.size) :
    (results fn tmps).run P w = .ok (.tuple #[.agg cs, tmps.getD t undef, tmps.getD u undef]) w := by
  have hp' : tmps[p]?.getD undef = .pointer (some ⟨g, 0, none⟩) := by simpa using hp
  simp [results, h, hp', asAddr, run_loadVar_row w g t2 ty cs fr d hg hu hd hi]
/-- a box of a piece, written whole -/
theorem box3_row {W : World} {g : Nat} {x y z : Value} {T : TypeId} (h : W.heap[g]? = some (.cells #[x, y, z] T (0, 0))) (a b c : Value) :
    (((W.setCell ⟨g, 0, none⟩ a).setCell ⟨g, 1, none⟩ b).setCell ⟨g, 2, none⟩ c).heap[g]? = some (.cells #[a, b, c] T (0, 0)) :=
  heap_setCell_same _ _ _ _ _ _ (heap_setCell_same _ _ _ _ _ _ (heap_setCell_same _ _ _ _ _ _ h))
theorem box3_below {B : Nat} {w0 W : World} (h : Below B w0 W) {g : Nat} (hg : B ≤ g) (a b c : Value) : Below B w0 (((W.setCell ⟨g, 0, none⟩ a).setCell ⟨g, 1, none⟩ b).setCell ⟨g, 2, none⟩ c) :=
  ((h.setCell (p := ⟨g, 0, none⟩) hg a).setCell (p := ⟨g, 1, none⟩) hg b).setCell (p := ⟨g, 2, none⟩) hg c
def pieV (f l : Int) (d r : ByteArray) (b : Bool) : Value := .tuple #[.agg #[.int .i64 f, .int .i64 l, .string d], .string r, .bool b]
set_option maxRecDepth 100000 in
set_option maxHeartbeats 2000000 in
theorem pieceOf_any (s : ByteArray) (w : World) (hs : s.size ≤ 1048576) :
    Calls Try.prog 33 #[.string s] w fun e w' => (∃ f l d r b, e = .returned (pieV f l d r b) ∧ ((b = true ∧ pieI s = some (⟨f, l, d⟩, r)) ∨ (b = false ∧ pieI s = none))) ∧ Below w.heap.size w w' := by
  have HD : Hid (∀ w, Calls Try.prog 49 #[.string s] w fun e w' => e = .returned (datIV (datI s)) ∧ Below w.heap.size w w') := fun w => dataOf_any s w hs
  have HN : Hid (∀ (s : ByteArray) w, s.size ≤ 1048576 → Calls Try.prog 32 #[.string s] w fun e w' => e = .returned (numIV (numI s)) ∧ Below w.heap.size w w') := fun s w hs => numOf_any s w hs
  have HC : Hid (∀ (s : ByteArray) w, s.size ≤ 1048576 → Calls Try.prog 45 #[.string s] w fun e w' => e = .returned (.string s) ∧ Below w.heap.size w w') := fun s w hs => clone_any s w (by omega)
  have HB0 : Hid (Below w.heap.size w (w.alloc (.cells #[.int .i64 0, .int .i64 0, .string ⟨#[]⟩] 43)) ∧ (w.alloc (.cells #[.int .i64 0, .int .i64 0, .string ⟨#[]⟩] 43)).heap[w.heap.size]? = some (.cells #[.int .i64 0, .int .i64 0, .string ⟨#[]⟩] 43 (0, 0))) := ⟨(Below.refl _ _).alloc (Nat.le_refl _) _, heap_alloc_new w _⟩
  go_enter Try.func33, Try.ntmps33
  cases hd : datI s with
  | none =>
    have HP : Hid (pieI s = none) := pieI_bad hd
    rw [hd] at HD
    clear hd
    go_wp2_with fail
    refine (HD.out _).mono ?_
    rintro e w1 ⟨rfl, hb1⟩
    have HB1 : Hid (Below w.heap.size w w1 ∧ w1.heap[w.heap.size]? = some (.cells #[.int .i64 0, .int .i64 0, .string ⟨#[]⟩] 43 (0, 0))) := ⟨bl3 HB0.out.1 hb1 HB0.out.1.size, (hb1.block _ (by simp)).trans HB0.out.2⟩
    clear hb1 HB0
    unfold datIV
    go_wp2_with fail
    refine (HC.out ⟨#[]⟩ _ (Nat.zero_le _)).mono ?_
    rintro e w2 ⟨rfl, hb2⟩
    have hr2 : w2.heap[w.heap.size]? = some (.cells #[.int .i64 0, .int .i64 0, .string ⟨#[]⟩] 43 (0, 0)) := (hb2.block _ (Array.getElem?_eq_some_iff.1 HB1.out.2).1).trans HB1.out.2
    have HB2 : Hid (Below w.heap.size w w2) := bl3 HB1.out.1 hb2 HB1.out.1.size
    have b0 : w2.cell? ⟨w.heap.size, 0, none⟩ = some (.int .i64 0) := cell_of_row _ _ _ _ _ _ hr2
    have b1 : w2.cell? ⟨w.heap.size, 1, none⟩ = some (.int .i64 0) := cell_of_row _ _ _ _ _ _ hr2
    have b2 : w2.cell? ⟨w.heap.size, 2, none⟩ = some (.string ⟨#[]⟩) := cell_of_row _ _ _ _ _ _ hr2
    have z0 := frozen_of_row w2 w.heap.size 0 _ _ hr2
    have z1 := frozen_of_row w2 w.heap.size 1 _ _ hr2
    have z2 := frozen_of_row w2 w.heap.size 2 _ _ hr2
    have HR : Hid _ := box3_row hr2 (.int .i64 0) (.int .i64 0) (.string ⟨#[]⟩)
    have HBF : Hid _ := box3_below HB2.out (Nat.le_refl _) (.int .i64 0) (.int .i64 0) (.string ⟨#[]⟩)
    clear hb2 HB1 hr2
    go_wp2_with fail
    refine bodyPost_ret (results_cell_2 rfl _ _ w.heap.size 43 #[.int .i64 0, .int .i64 0, .string ⟨#[]⟩] (0, 0) _ rfl HR.out Try.underlying43 rfl (by kernel_rfl)) rfl ⟨⟨0, 0, ⟨#[]⟩, ⟨#[]⟩, false, rfl, Or.inr ⟨rfl, HP.out⟩⟩, HBF.out⟩
  | some p =>
    obtain ⟨d, r⟩ := p
    obtain ⟨hds, hrs⟩ := datI_bd hd
    rw [hd] at HD
    by_cases hde : d = ⟨#[]⟩
    · subst hde
      have HDD : Hid (datI s = some (⟨#[]⟩, r)) := hd
      clear hd
      go_wp2_with fail
      refine (HD.out _).mono ?_
      rintro e w1 ⟨rfl, hb1⟩
      have HB1 : Hid (Below w.heap.size w w1 ∧ w1.heap[w.heap.size]? = some (.cells #[.int .i64 0, .int .i64 0, .string ⟨#[]⟩] 43 (0, 0))) := ⟨bl3 HB0.out.1 hb1 HB0.out.1.size, (hb1.block _ (by simp)).trans HB0.out.2⟩
      clear hb1 HB0
      unfold datIV
      go_wp2_with fail
      refine (HN.out r _ (by omega)).mono ?_
      rintro e w2 ⟨rfl, hb2⟩
      have HB2 : Hid (Below w.heap.size w w2 ∧ w2.heap[w.heap.size]? = some (.cells #[.int .i64 0, .int .i64 0, .string ⟨#[]⟩] 43 (0, 0))) := ⟨bl3 HB1.out.1 hb2 HB1.out.1.size, (hb2.block _ (Array.getElem?_eq_some_iff.1 HB1.out.2).1).trans HB1.out.2⟩
      clear hb2 HB1
      cases hn1 : numI r with
      | none =>
        have HP : Hid (pieI s = none) := pieI_no1 HDD.out hn1
        have hr2 := HB2.out.2
        have b0 : w2.cell? ⟨w.heap.size, 0, none⟩ = some (.int .i64 0) := cell_of_row _ _ _ _ _ _ hr2
        have b1 : w2.cell? ⟨w.heap.size, 1, none⟩ = some (.int .i64 0) := cell_of_row _ _ _ _ _ _ hr2
        have b2 : w2.cell? ⟨w.heap.size, 2, none⟩ = some (.string ⟨#[]⟩) := cell_of_row _ _ _ _ _ _ hr2
        have z0 := frozen_of_row w2 w.heap.size 0 _ _ hr2
        have z1 := frozen_of_row w2 w.heap.size 1 _ _ hr2
        have z2 := frozen_of_row w2 w.heap.size 2 _ _ hr2
        have HR : Hid _ := box3_row hr2 (.int .i64 0) (.int .i64 0) (.string ⟨#[]⟩)
        have HBF : Hid _ := box3_below HB2.out.1 (Nat.le_refl _) (.int .i64 0) (.int .i64 0) (.string ⟨#[]⟩)
        clear hr2 HB2 hn1
        unfold numIV
        go_wp2_with fail
        refine bodyPost_ret (results_cell_2 rfl _ _ w.heap.size 43 #[.int .i64 0, .int .i64 0, .string ⟨#[]⟩] (0, 0) _ rfl HR.out Try.underlying43 rfl (by kernel_rfl)) rfl ⟨⟨0, 0, ⟨#[]⟩, ⟨#[]⟩, false, rfl, Or.inr ⟨rfl, HP.out⟩⟩, HBF.out⟩
      | some q =>
        obtain ⟨f, r1⟩ := q
        have hr1s := (numI_bd hn1).2
        have HN1 : Hid (numI r = some (f, r1)) := hn1
        clear hn1
        unfold numIV
        go_wp2_with fail
        refine (HN.out r1 _ (by omega)).mono ?_
        rintro e w3 ⟨rfl, hb3⟩
        have HB3 : Hid (Below w.heap.size w w3 ∧ w3.heap[w.heap.size]? = some (.cells #[.int .i64 0, .int .i64 0, .string ⟨#[]⟩] 43 (0, 0))) := ⟨bl3 HB2.out.1 hb3 HB2.out.1.size, (hb3.block _ (Array.getElem?_eq_some_iff.1 HB2.out.2).1).trans HB2.out.2⟩
        clear hb3 HB2
        have hr2 := HB3.out.2
        have b0 : w3.cell? ⟨w.heap.size, 0, none⟩ = some (.int .i64 0) := cell_of_row _ _ _ _ _ _ hr2
        have b1 : w3.cell? ⟨w.heap.size, 1, none⟩ = some (.int .i64 0) := cell_of_row _ _ _ _ _ _ hr2
        have b2 : w3.cell? ⟨w.heap.size, 2, none⟩ = some (.string ⟨#[]⟩) := cell_of_row _ _ _ _ _ _ hr2
        have z0 := frozen_of_row w3 w.heap.size 0 _ _ hr2
        have z1 := frozen_of_row w3 w.heap.size 1 _ _ hr2
        have z2 := frozen_of_row w3 w.heap.size 2 _ _ hr2
        cases hn2 : numI r1 with
        | none =>
          have HP : Hid (pieI s = none) := pieI_no2 HDD.out HN1.out hn2
          have HR : Hid _ := box3_row hr2 (.int .i64 (f : Int)) (.int .i64 0) (.string ⟨#[]⟩)
          have HBF : Hid _ := box3_below HB3.out.1 (Nat.le_refl _) (.int .i64 (f : Int)) (.int .i64 0) (.string ⟨#[]⟩)
          clear hr2 HB3 hn2
          unfold numIV
          go_wp2_with fail
          refine bodyPost_ret (results_cell_2 rfl _ _ w.heap.size 43 #[.int .i64 (f : Int), .int .i64 0, .string ⟨#[]⟩] (0, 0) _ rfl HR.out Try.underlying43 rfl (by kernel_rfl)) rfl ⟨⟨f, 0, ⟨#[]⟩, ⟨#[]⟩, false, rfl, Or.inr ⟨rfl, HP.out⟩⟩, HBF.out⟩
        | some q2 =>
          obtain ⟨l, r2⟩ := q2
          have HP : Hid (pieI s = some (⟨(f : Int), (l : Int), ⟨#[]⟩⟩, r2)) := pieI_yes HDD.out HN1.out hn2
          have HR : Hid _ := box3_row hr2 (.int .i64 (f : Int)) (.int .i64 (l : Int)) (.string ⟨#[]⟩)
          have HBF : Hid _ := box3_below HB3.out.1 (Nat.le_refl _) (.int .i64 (f : Int)) (.int .i64 (l : Int)) (.string ⟨#[]⟩)
          clear hr2 HB3 hn2
          unfold numIV
          go_wp2_with fail
          refine bodyPost_ret (results_cell_2 rfl _ _ w.heap.size 43 #[.int .i64 (f : Int), .int .i64 (l : Int), .string ⟨#[]⟩] (0, 0) _ rfl HR.out Try.underlying43 rfl (by kernel_rfl)) rfl ⟨⟨f, l, ⟨#[]⟩, r2, true, rfl, Or.inl ⟨rfl, HP.out⟩⟩, HBF.out⟩
    · have HP : Hid (pieI s = some (⟨0, 0, d⟩, r)) := pieI_dat hd hde
      have he := d_ne hde
      clear hd hde
      go_wp2_with fail
      refine (HD.out _).mono ?_
      rintro e w1 ⟨rfl, hb1⟩
      have HB1 : Hid (Below w.heap.size w w1 ∧ w1.heap[w.heap.size]? = some (.cells #[.int .i64 0, .int .i64 0, .string ⟨#[]⟩] 43 (0, 0))) := ⟨bl3 HB0.out.1 hb1 HB0.out.1.size, (hb1.block _ (by simp)).trans HB0.out.2⟩
      clear hb1 HB0
      unfold datIV
      go_wp2_with fail
      refine (HC.out d _ (by omega)).mono ?_
      rintro e w2 ⟨rfl, hb2⟩
      have hr2 : w2.heap[w.heap.size]? = some (.cells #[.int .i64 0, .int .i64 0, .string ⟨#[]⟩] 43 (0, 0)) := (hb2.block _ (Array.getElem?_eq_some_iff.1 HB1.out.2).1).trans HB1.out.2
      have HB2 : Hid (Below w.heap.size w w2) := bl3 HB1.out.1 hb2 HB1.out.1.size
      have b0 : w2.cell? ⟨w.heap.size, 0, none⟩ = some (.int .i64 0) := cell_of_row _ _ _ _ _ _ hr2
      have b1 : w2.cell? ⟨w.heap.size, 1, none⟩ = some (.int .i64 0) := cell_of_row _ _ _ _ _ _ hr2
      have b2 : w2.cell? ⟨w.heap.size, 2, none⟩ = some (.string ⟨#[]⟩) := cell_of_row _ _ _ _ _ _ hr2
      have z0 := frozen_of_row w2 w.heap.size 0 _ _ hr2
      have z1 := frozen_of_row w2 w.heap.size 1 _ _ hr2
      have z2 := frozen_of_row w2 w.heap.size 2 _ _ hr2
      have HR : Hid _ := box3_row hr2 (.int .i64 0) (.int .i64 0) (.string d)
      have HBF : Hid _ := box3_below HB2.out (Nat.le_refl _) (.int .i64 0) (.int .i64 0) (.string d)
      clear hb2 HB1 hr2
      go_wp2_with fail
      refine bodyPost_ret (results_cell_2 rfl _ _ w.heap.size 43 #[.int .i64 0, .int .i64 0, .string d] (0, 0) _ rfl HR.out Try.underlying43 rfl (by kernel_rfl)) rfl ⟨⟨0, 0, d, r, true, rfl, Or.inl ⟨rfl, HP.out⟩⟩, HBF.out⟩
end Go.Proofs.Ytadimakdjndcdae
