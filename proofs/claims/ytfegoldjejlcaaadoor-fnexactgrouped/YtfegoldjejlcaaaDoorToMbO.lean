/-
  What the law makes of members that came in, with the row that it lies in; marks at whatever list.
-/
import Derived.Test.YtfegoldjejlcaaaDoorMMkB
import Derived.Test.YtfegoldjejlcaaaDoorMbL
import Derived.Test.YtfegoldjejlcaaaDoorKp
namespace Go.Proofs.YtfegoldjejlcaaaDoor
open Go.RowKit
set_option linter.unusedVariables false
set_option linter.unusedSimpArgs false
set_option maxRecDepth 100000 in
set_option maxHeartbeats 4000000 in
theorem toMbO_some (g off c n : Nat) (F : Nat → MbI) (w : World) (hn : n ≤ 1048576) (hg : g < w.heap.size)
    (h0 : ∀ i, i < n → w.cell? ⟨g, off + i * 2, none⟩ = some (.string (F i).a) ∧ w.cell? ⟨g, off + i * 2 + 1, none⟩ = some (.string (F i).d)) :
    Calls Tryd.prog 36 #[.slice (some ⟨g, off, none⟩) n c] w fun e w' => e = .returned (.slice (some ⟨w.heap.size, 0, none⟩) n n) ∧ MbRow w' w.heap.size n F ∧ Below w.heap.size w w' ∧ ∃ cur, w'.heap[w.heap.size]? = some (.cells cur 46 (0, 0)) ∧ 2 * n ≤ cur.size := by
  have hnI : (n : Int) ≤ 1048576 := by omega
  have HT : Hid (∀ a d w, Calls Tryd.prog 72 #[mbV a d] w fun e w' => e = .returned (mbV a d) ∧ Below w.heap.size w w') := fun a d w => toMb_any a d w
  unfold mbV at HT
  have HC : Hid _ := h0
  clear h0
  obtain ⟨i0, hi0, hz0, hz1, hz2⟩ := info_parts Tryd.infMb
  have hmk := run_make (P := Tryd.prog) w 40 46 i0 (.agg #[.string ⟨#[]⟩, .string ⟨#[]⟩]) Tryd.underlying40 hi0 hz0 .i64 .i64 (n : Int) (n : Int) (by omega) (by omega) (by rw [hz2]; omega) (by omega)
  rw [hz1, Int.toNat_natCast] at hmk
  have HZS : Hid ((madeCells (Value.agg #[.string ⟨#[]⟩, .string ⟨#[]⟩]).cells (n * 2)).size = 2 * n) := by
    show (madeCells _ _).size = _
    rw [size_madeCells]; omega
  generalize madeCells (Value.agg #[.string ⟨#[]⟩, .string ⟨#[]⟩]).cells (n * 2) = Z at hmk HZS
  have HU : Hid (Below w.heap.size w (w.alloc (.cells Z 46)) ∧ (w.alloc (.cells Z 46)).heap[w.heap.size]? = some (.cells Z 46 (0, 0))) := ⟨(Below.refl _ _).alloc (Nat.le_refl _) _, heap_alloc_new w _⟩
  go_enter Tryd.func36, Tryd.ntmps36
  go_wp2_with fail
  go_loopw [4] (fun v wr => ∃ (i : Nat) (C : Array Value), i ≤ n ∧ v = .int .i64 (i : Int) ∧ C.size = 2 * n ∧ Hid (Below w.heap.size w wr ∧ wr.heap[w.heap.size]? = some (.cells C 46 (0, 0))) ∧ Hid (∀ j, j < i → C[2 * j]? = some (.string (F j).a) ∧ C[2 * j + 1]? = some (.string (F j).d))) (fun v _ => n - (intMb v).toNat)
  case atStart => exact ⟨0, Z, by omega, rfl, HZS.out, HU, fun j hj => absurd hj (by omega)⟩
  case round =>
    clear HU
    obtain ⟨i, C, hi, rfl, hcs, HB, HCC⟩ := hrel
    have HCS : Hid (C.size = 2 * n) := hcs
    clear hcs
    by_cases hlt : i < n
    · have hltI : (i : Int) < (n : Int) := by omega
      obtain ⟨x0, x1⟩ := HC.out i hlt
      rw [← HB.out.1.cell (p := ⟨g, off + i * 2, none⟩) hg] at x0
      rw [← HB.out.1.cell (p := ⟨g, off + i * 2 + 1, none⟩) hg] at x1
      go_wp2_with fail
      refine (HT.out _ _ _).mono ?_
      rintro e w3 ⟨rfl, hb3⟩
      have hsz := HCS.out
      have hrow : w3.heap[w.heap.size]? = some (.cells C 46 (0, 0)) := (hb3.block _ (Array.getElem?_eq_some_iff.1 HB.out.2).1).trans HB.out.2
      have hbw : Below w.heap.size w w3 := blMb HB.out.1 hb3 HB.out.1.size
      obtain ⟨q, hq⟩ : ∃ q, q = 2 * i := ⟨_, rfl⟩
      have hiq : i * 2 = q := by omega
      have HQ : Hid (q = 2 * i) := hq
      have HB3 : Hid (Below w.heap.size w w3 ∧ w3.heap[w.heap.size]? = some (.cells C 46 (0, 0))) := ⟨hbw, hrow⟩
      have y0 : w3.cell? ⟨w.heap.size, q, none⟩ = some C[q] := (cell_of_row w3 _ q _ _ _ hrow).trans (Array.getElem?_eq_getElem (by omega))
      have y1 : w3.cell? ⟨w.heap.size, q + 1, none⟩ = some C[q + 1] := (cell_of_row w3 _ (q + 1) _ _ _ hrow).trans (Array.getElem?_eq_getElem (by omega))
      have z0 := frozen_of_row w3 _ q _ _ hrow
      have z1 := frozen_of_row w3 _ (q + 1) _ _ hrow
      have HN : Hid (Below w.heap.size w (setWMb w3 w.heap.size q (.string (F i).a) (.string (F i).d)) ∧ (setWMb w3 w.heap.size q (.string (F i).a) (.string (F i).d)).heap[w.heap.size]? = some (.cells (setMb C q (.string (F i).a) (.string (F i).d)) 46 (0, 0))) :=
        ⟨setWMb_below hbw (Nat.le_refl _) _ _ _, setWMb_row hrow _ _ _⟩
      have HN2 : Hid (∀ j, j < i + 1 → (setMb C q (.string (F i).a) (.string (F i).d))[2 * j]? = some (.string (F j).a) ∧ (setMb C q (.string (F i).a) (.string (F i).d))[2 * j + 1]? = some (.string (F j).d)) := fun j hj => by
        by_cases hji : j < i
        · rw [setMb_low _ _ _ _ _ (by omega), setMb_low _ _ _ _ _ (by omega)]
          exact HCC.out j hji
        · obtain rfl : j = i := by omega
          rw [← hq]
          exact ⟨setMb_0 _ _ _ _ (by omega), setMb_1 _ _ _ _ (by omega)⟩
      generalize C[q] = u0 at y0
      generalize C[q + 1] = u1 at y1
      clear hsz hrow hbw hb3 x0 x1 hq HB
      go_wp2_with fail
      go_roundw
      case rel => exact ⟨i + 1, _, by omega, by go_num, (setMb_size _ _ _ _).trans HCS.out, HN, HN2⟩
      case measure => simp [intMb]; omega
    · obtain rfl : i = n := by omega
      go_wp2_with fail
      go_ret
      have hr := HB.out.2
      exact ⟨rfl, ⟨(Array.getElem?_eq_some_iff.1 hr).1, fun j hj => (cell_of_row wr _ _ _ _ _ hr).trans (HCC.out j hj).1, fun j hj => (cell_of_row wr _ _ _ _ _ hr).trans (HCC.out j hj).2⟩, HB.out.1, _, hr, Nat.le_of_eq HCS.out.symm⟩
/-- a list of structs that lies in a row of its own, made between two sizes of memory -/
def MbO (w : World) (B T : Nat) (v : Value) (n : Nat) : Prop := ∃ a c, v = .slice a n c ∧ (0 < n → ∃ g cur, a = some ⟨g, 0, none⟩ ∧ B ≤ g ∧ g < T ∧ w.heap[g]? = some (.cells cur 46 (0, 0)) ∧ 2 * n ≤ cur.size)
theorem toMbO_any (v : Value) (n : Nat) (F : Nat → MbI) (w : World) (hn : n ≤ 1048576) (h : MbIn w v n F) :
    Calls Tryd.prog 36 #[v] w fun e w' => (∃ v', e = .returned v' ∧ MbArg w' v' n F ∧ MbO w' w.heap.size w'.heap.size v' n) ∧ Below w.heap.size w w' := by
  obtain ⟨a, c, rfl, hr⟩ := h.form
  by_cases h0 : 0 < n
  · obtain ⟨g, off, rfl, hg, hx⟩ := hr h0
    refine (toMbO_some g off c n F w hn hg hx).mono ?_
    rintro e w' ⟨rfl, hrow, hb, cur, h1, h2⟩
    exact ⟨⟨_, rfl, ⟨_, _, rfl, fun _ => ⟨_, rfl, hrow⟩⟩, ⟨_, _, rfl, fun _ => ⟨_, cur, rfl, Nat.le_refl _, (Array.getElem?_eq_some_iff.1 h1).1, h1, h2⟩⟩⟩, hb⟩
  · obtain rfl : n = 0 := by omega
    refine (toMbS_zero a c w).mono ?_
    rintro e w' ⟨⟨b, rfl⟩, hb⟩
    exact ⟨⟨_, rfl, ⟨_, _, rfl, fun h => absurd h (by omega)⟩, ⟨_, _, rfl, fun h => absurd h (by omega)⟩⟩, hb⟩
theorem own2_MbO {w : World} {B n : Nat} {v : Value} {xs : List Value} (h : w.ownsRow B 46 2 v n xs) : MbO w B w.heap.size v n := by
  obtain ⟨a, c, rfl⟩ := own2_slice h
  refine ⟨a, c, rfl, fun h0 => ?_⟩
  obtain ⟨g, cap, cur, h1, h2, h3, h4, _⟩ := own2_form h h0
  cases h1
  exact ⟨g, cur, rfl, h2, (Array.getElem?_eq_some_iff.1 h3).1, h3, h4⟩
theorem MbO.kept {w w' : World} {bs : List (Nat × Nat)} {B T n : Nat} {v : Value} (h : MbO w B T v n) (hk : Kp w w' bs) (hd : ∀ b ∈ bs, b.2 ≤ B ∨ T ≤ b.1) : MbO w' B T v n := by
  obtain ⟨a, c, rfl, hr⟩ := h
  refine ⟨a, c, rfl, fun h0 => ?_⟩
  obtain ⟨g, cur, h1, h2, h3, h4, h5⟩ := hr h0
  exact ⟨g, cur, h1, h2, h3, (hk.same g (Array.getElem?_eq_some_iff.1 h4).1 fun b hb c => by rcases hd b hb with e | e <;> omega).trans h4, h5⟩
theorem MbArg.kept {w w' : World} {bs : List (Nat × Nat)} {B T n : Nat} {v : Value} {F : Nat → MbI} (h : MbArg w v n F) (ho : MbO w B T v n) (hk : Kp w w' bs) (hd : ∀ b ∈ bs, b.2 ≤ B ∨ T ≤ b.1) : MbArg w' v n F := by
  obtain ⟨a, c, rfl, hr⟩ := h
  refine ⟨a, c, rfl, fun h0 => ?_⟩
  obtain ⟨g, rfl, hrow⟩ := hr h0
  obtain ⟨a2, c2, e2, ho2⟩ := ho
  cases e2
  obtain ⟨g2, cur, e3, h2, h3, h4, _⟩ := ho2 h0
  cases e3
  have hb := hk.same g hrow.lt fun b hb c => by rcases hd b hb with e | e <;> omega
  exact ⟨g, rfl, Nat.lt_of_lt_of_le hrow.lt hk.size, fun i hi => (World.cell?_of_block (a := ⟨g, 2 * i, none⟩) hb).trans (hrow.c0 i hi), fun i hi => (World.cell?_of_block (a := ⟨g, 2 * i + 1, none⟩) hb).trans (hrow.c1 i hi)⟩
/-- a list that bears marks from k on -/
def MkLMb (w : World) (v : Value) (n k : Nat) : Prop := ∃ a c, v = .slice a n c ∧ (0 < n → ∃ g, a = some ⟨g, 0, none⟩ ∧ g < w.heap.size ∧ MmAt w g n k)
theorem MkLMb.below {w w' : World} {v : Value} {n k : Nat} (h : MkLMb w v n k) (hb : Below w.heap.size w w') : MkLMb w' v n k := by
  obtain ⟨a, c, rfl, hr⟩ := h
  refine ⟨a, c, rfl, fun h0 => ?_⟩
  obtain ⟨g, h1, h2, h3⟩ := hr h0
  exact ⟨g, h1, Nat.lt_of_lt_of_le h2 hb.size, h3.below hb h2⟩
theorem markMbL_any {B0 : Nat} {w00 : World} (v : Value) (n k B T : Nat) (w w0 : World) (bs : List (Nat × Nat)) (hn : n ≤ 1048576) (h1 : 1 ≤ k) (hk : k ≤ 4300000) (h : MbO w B T v n) (hkp : Kp w0 w bs) (hb : Below B0 w00 w) (hB0 : B0 ≤ B) (hT : w0.heap.size ≤ w.heap.size) :
    Calls Tryd.prog 38 #[v, .int .i64 (k : Int)] w fun e w' => (e = .returned (.int .i64 ((k + 2 * n : Nat) : Int)) ∧ MkLMb w' v n k) ∧ Kp w0 w' ((B, T) :: bs) ∧ Below B0 w00 w' := by
  obtain ⟨a, c, rfl, hr⟩ := h
  by_cases h0 : 0 < n
  · obtain ⟨g, cur, rfl, h2, h3, h4, h5⟩ := hr h0
    refine (markMB_any g c n k cur w hn h1 hk h4 h5).mono ?_
    rintro e w' ⟨⟨rfl, hm⟩, hg⟩
    have hgl := (Array.getElem?_eq_some_iff.1 h4).1
    refine ⟨⟨rfl, _, _, rfl, fun _ => ⟨g, rfl, Nat.lt_of_lt_of_le hgl hg.size, hm⟩⟩, ⟨Nat.le_trans hkp.size hg.size, fun x hx hn2 => ?_⟩, hb.grown hg (Nat.le_of_lt (Nat.lt_of_le_of_lt (Nat.le_trans hB0 h2) hgl)) (fun x hx => by have := Option.some.inj hx; omega)⟩
    rw [hg.block x (Nat.lt_of_lt_of_le hx hkp.size) (fun e => hn2 (B, T) (List.mem_cons_self ..) (by have := Option.some.inj e; show B ≤ x ∧ x < T; omega))]
    exact hkp.same x hx fun b hb' => hn2 b (List.mem_cons_of_mem _ hb')
  · obtain rfl : n = 0 := by omega
    refine (markM_zero a c k w).mono ?_
    rintro e w' ⟨rfl, rfl⟩
    exact ⟨⟨rfl, _, _, rfl, fun h => absurd h (by omega)⟩, hkp.more _, hb⟩
theorem heldMbL_any (v : Value) (n k : Nat) (w : World) (hn : n ≤ 1000) (h1 : 1 ≤ k) (hk : k ≤ 1000) (h : MkLMb w v n k) :
    Calls Tryd.prog 39 #[v, .int .i64 (k : Int)] w fun e w' => e = .returned (.int .i64 ((k + 2 * n : Nat) : Int)) ∧ Below w.heap.size w w' := by
  obtain ⟨a, c, rfl, hr⟩ := h
  by_cases h0 : 0 < n
  · obtain ⟨g, rfl, h2, h3⟩ := hr h0
    exact heldM_any g c n k w hn h1 hk h2 h3
  · obtain rfl : n = 0 := by omega
    refine (heldM_zero a c k w).mono ?_
    rintro e w' ⟨rfl, rfl⟩
    exact ⟨rfl, Below.refl _ _⟩
end Go.Proofs.YtfegoldjejlcaaaDoor
