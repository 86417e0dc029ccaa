/-
  Several texts of this seat as one: RdC, RdL, ToPcO.
-/
import Derived.Test.YtpeddaljgmkomaaPk06
import Derived.Test.YtpeddaljgmkomaaPk01
import Derived.Laws.AppendOwn
import Derived.OwnWalk
import Derived.Test.YtpeddaljgmkomaaPk03

/-!   The readers of data and of a piece: the code's. -/
namespace Go.Proofs.Ytpeddaljgmkomaa
open Go.RowKit
set_option linter.unusedVariables false
set_option linter.unusedSimpArgs false
def datIV : Option (ByteArray × ByteArray) → Value
  | none => .tuple #[.string ⟨#[]⟩, .string ⟨#[]⟩, .bool false]
  | some (d, r) => .tuple #[.string d, .string r, .bool true]
theorem datI_numn {s : ByteArray} (h : numI s = none) : datI s = none := by
  unfold datI txt
  cases hn : num s with
  | none => rfl
  | some p =>
    obtain ⟨X, u⟩ := p
    have hx : ¬ X ≤ 1000000000000 := fun c => by rw [numI_some hn c] at h; cases h
    simp only
    rw [if_neg (fun c => hx (by have := c.1; omega))]
theorem datI_numb {s r : ByteArray} {n : Nat} (h : numI s = some (n, r)) (hb : ¬ (n ≤ 100000 ∧ n ≤ r.size)) : datI s = none := by
  unfold datI txt
  cases hn : num s with
  | none => rfl
  | some p =>
    obtain ⟨X, u⟩ := p
    have h0 := num_nn hn
    have hx : X ≤ 1000000000000 := by
      by_cases c : X ≤ 1000000000000
      · exact c
      · rw [numI_none2 hn c] at h; cases h
    rw [numI_some hn hx] at h
    simp only [Option.some.injEq, Prod.mk.injEq] at h
    obtain ⟨rfl, rfl⟩ := h
    simp only
    rw [if_neg (fun c => hb ⟨by have := c.1; omega, by rw [ByteArray.size_extract]; have := c.2; omega⟩)]
theorem datI_num {s r : ByteArray} {n : Nat} (h : numI s = some (n, r)) (h1 : n ≤ 100000) (h2 : n ≤ r.size) : datI s = some (r.extract 0 n, r.extract n r.size) := by
  unfold datI txt
  cases hn : num s with
  | none => rw [numI_none1 hn] at h; cases h
  | some p =>
    obtain ⟨X, u⟩ := p
    have h0 := num_nn hn
    have hu := num_bd hn
    have hx : X ≤ 1000000000000 := by
      by_cases c : X ≤ 1000000000000
      · exact c
      · rw [numI_none2 hn c] at h; cases h
    rw [numI_some hn hx] at h
    simp only [Option.some.injEq, Prod.mk.injEq] at h
    obtain ⟨rfl, rfl⟩ := h
    rw [ByteArray.size_extract] at h2
    simp only
    rw [if_pos ⟨by omega, by omega⟩]
    simp only
    rw [ext_mid _ _ _ (by omega)]
    have e : (s.extract u s.size).size = s.size - u := by rw [ByteArray.size_extract]; omega
    rw [e, ext_tail]
theorem results_cell_2 {P : Program} {fn : Func} {t u p : Tmp} {ty : TypeId} (h : fn.results = #[.cell p ty, .tmp t, .tmp u]) (tmps : Array Value) (w : World) (g : Nat) (t2 : TypeId) (cs : Array Value) (fr : Nat × Nat) (d : TypeDesc)
    (hp : tmps.getD p undef = .pointer (some ⟨g, 0, none⟩)) (hg : w.heap[g]? = some (.cells cs t2 fr))
    (hu : P.underlying ty = some d) (hd : (match d with | .struct _ | .array _ _ => true | _ => false) = true) (hi : (P.info? ty).map (·.size) = some cs.size) :
    (results fn tmps).run P w = .ok (.tuple #[.agg cs, tmps.getD t undef, tmps.getD u undef]) w := by
  have hp' : tmps[p]?.getD undef = .pointer (some ⟨g, 0, none⟩) := by simpa using hp
  simp [results, h, hp', asAddr, run_loadVar_row w g t2 ty cs fr d hg hu hd hi]
/-- a box of a piece, written whole -/
theorem box3_row {W : World} {g : Nat} {x y z : Value} {T : TypeId} (h : W.heap[g]? = some (.cells #[x, y, z] T (0, 0))) (a b c : Value) :
    (((W.setCell ⟨g, 0, none⟩ a).setCell ⟨g, 1, none⟩ b).setCell ⟨g, 2, none⟩ c).heap[g]? = some (.cells #[a, b, c] T (0, 0)) :=
  heap_setCell_same _ _ _ _ _ _ (heap_setCell_same _ _ _ _ _ _ (heap_setCell_same _ _ _ _ _ _ h))
theorem box3_below {B : Nat} {w0 W : World} (h : Below B w0 W) {g : Nat} (hg : B ≤ g) (a b c : Value) : Below B w0 (((W.setCell ⟨g, 0, none⟩ a).setCell ⟨g, 1, none⟩ b).setCell ⟨g, 2, none⟩ c) :=
  ((h.setCell (p := ⟨g, 0, none⟩) hg a).setCell (p := ⟨g, 1, none⟩) hg b).setCell (p := ⟨g, 2, none⟩) hg c
def pieV (f l : Int) (d r : ByteArray) (b : Bool) : Value := .tuple #[.agg #[.int .i64 f, .int .i64 l, .string d], .string r, .bool b]
end Go.Proofs.Ytpeddaljgmkomaa

/-!   A row of pieces that is made. -/
namespace Go.Proofs.Ytpeddaljgmkomaa
open Go.RowKit
set_option linter.unusedVariables false
set_option linter.unusedSimpArgs false
end Go.Proofs.Ytpeddaljgmkomaa

/-!   What the law makes of pieces that came in, with the row that it lies in; marks at whatever list. -/
namespace Go.Proofs.Ytpeddaljgmkomaa
open Go.RowKit
set_option linter.unusedVariables false
set_option linter.unusedSimpArgs false
set_option maxRecDepth 100000 in
set_option maxHeartbeats 2000000 in
theorem toPcO_some (g off c n : Nat) (F : Nat → PcI) (w : World) (hn : n ≤ 1048576) (hg : g < w.heap.size)
    (h0 : ∀ i, i < n → w.cell? ⟨g, off + i * 3, none⟩ = some (.int .i64 (F i).f) ∧ w.cell? ⟨g, off + i * 3 + 1, none⟩ = some (.int .i64 (F i).l) ∧ w.cell? ⟨g, off + i * 3 + 2, none⟩ = some (.string (F i).d)) :
    Calls Try.prog 70 #[.slice (some ⟨g, off, none⟩) n c] w fun e w' => e = .returned (.slice (some ⟨w.heap.size, 0, none⟩) n n) ∧ PcRow w' w.heap.size n F ∧ Below w.heap.size w w' ∧ ∃ cur, w'.heap[w.heap.size]? = some (.cells cur 89 (0, 0)) ∧ 3 * n ≤ cur.size := by
  have hnI : (n : Int) ≤ 1048576 := by omega
  have HT : Hid (∀ f l d w, Calls Try.prog 94 #[pcV f l d] w fun e w' => e = .returned (pcV f l d) ∧ Below w.heap.size w w') := fun f l d w => toPc_any f l d w
  unfold pcV at HT
  have HC : Hid _ := h0
  clear h0
  obtain ⟨i0, hi0, hz0, hz1, hz2⟩ := info_parts Try.infP
  have hmk := run_make (P := Try.prog) w 52 89 i0 (.agg #[.int .i64 0, .int .i64 0, .string ⟨#[]⟩]) Try.underlying52 hi0 hz0 .i64 .i64 (n : Int) (n : Int) (by omega) (by omega) (by rw [hz2]; omega) (by omega)
  rw [hz1, Int.toNat_natCast] at hmk
  have HZS : Hid ((madeCells (Value.agg #[.int .i64 0, .int .i64 0, .string ⟨#[]⟩]).cells (n * 3)).size = 3 * n) := by
    show (madeCells _ _).size = _
    rw [size_madeCells]; omega
  generalize madeCells (Value.agg #[.int .i64 0, .int .i64 0, .string ⟨#[]⟩]).cells (n * 3) = Z at hmk HZS
  have HU : Hid (Below w.heap.size w (w.alloc (.cells Z 89)) ∧ (w.alloc (.cells Z 89)).heap[w.heap.size]? = some (.cells Z 89 (0, 0))) := ⟨(Below.refl _ _).alloc (Nat.le_refl _) _, heap_alloc_new w _⟩
  go_enter Try.func70, Try.ntmps70
  go_wp2_with fail
  go_loopw [4] (fun v wr => ∃ (i : Nat) (C : Array Value), i ≤ n ∧ v = .int .i64 (i : Int) ∧ C.size = 3 * n ∧ Hid (Below w.heap.size w wr ∧ wr.heap[w.heap.size]? = some (.cells C 89 (0, 0))) ∧ Hid (∀ j, j < i → C[3 * j]? = some (.int .i64 (F j).f) ∧ C[3 * j + 1]? = some (.int .i64 (F j).l) ∧ C[3 * j + 2]? = some (.string (F j).d))) (fun v _ => n - (intN v).toNat)
  case atStart => exact ⟨0, Z, by omega, rfl, HZS.out, HU, fun j hj => absurd hj (by omega)⟩
  case round =>
    clear HU
    obtain ⟨i, C, hi, rfl, hcs, HB, HCC⟩ := hrel
    have HCS : Hid (C.size = 3 * n) := hcs
    clear hcs
    by_cases hlt : i < n
    · have hltI : (i : Int) < (n : Int) := by omega
      obtain ⟨x0, x1, x2⟩ := HC.out i hlt
      rw [← HB.out.1.cell (p := ⟨g, off + i * 3, none⟩) hg] at x0
      rw [← HB.out.1.cell (p := ⟨g, off + i * 3 + 1, none⟩) hg] at x1
      rw [← HB.out.1.cell (p := ⟨g, off + i * 3 + 2, none⟩) hg] at x2
      go_wp2_with fail
      refine (HT.out _ _ _ _).mono ?_
      rintro e w3 ⟨rfl, hb3⟩
      have hsz := HCS.out
      have hrow : w3.heap[w.heap.size]? = some (.cells C 89 (0, 0)) := (hb3.block _ (Array.getElem?_eq_some_iff.1 HB.out.2).1).trans HB.out.2
      have hbw : Below w.heap.size w w3 := bl3 HB.out.1 hb3 HB.out.1.size
      obtain ⟨q, hq⟩ : ∃ q, q = 3 * i := ⟨_, rfl⟩
      have hiq : i * 3 = q := by omega
      have HQ : Hid (q = 3 * i) := hq
      have HB3 : Hid (Below w.heap.size w w3 ∧ w3.heap[w.heap.size]? = some (.cells C 89 (0, 0))) := ⟨hbw, hrow⟩
      have y0 : w3.cell? ⟨w.heap.size, q, none⟩ = some C[q] := (cell_of_row w3 _ q _ _ _ hrow).trans (Array.getElem?_eq_getElem (by omega))
      have y1 : w3.cell? ⟨w.heap.size, q + 1, none⟩ = some C[q + 1] := (cell_of_row w3 _ (q + 1) _ _ _ hrow).trans (Array.getElem?_eq_getElem (by omega))
      have y2 : w3.cell? ⟨w.heap.size, q + 2, none⟩ = some C[q + 2] := (cell_of_row w3 _ (q + 2) _ _ _ hrow).trans (Array.getElem?_eq_getElem (by omega))
      have z0 := frozen_of_row w3 _ q _ _ hrow
      have z1 := frozen_of_row w3 _ (q + 1) _ _ hrow
      have z2 := frozen_of_row w3 _ (q + 2) _ _ hrow
      have HN : Hid (Below w.heap.size w (setW3 w3 w.heap.size q (.int .i64 (F i).f) (.int .i64 (F i).l) (.string (F i).d)) ∧ (setW3 w3 w.heap.size q (.int .i64 (F i).f) (.int .i64 (F i).l) (.string (F i).d)).heap[w.heap.size]? = some (.cells (set3 C q (.int .i64 (F i).f) (.int .i64 (F i).l) (.string (F i).d)) 89 (0, 0))) :=
        ⟨setW3_below hbw (Nat.le_refl _) _ _ _ _, setW3_row hrow _ _ _ _⟩
      have HN2 : Hid (∀ j, j < i + 1 → (set3 C q (.int .i64 (F i).f) (.int .i64 (F i).l) (.string (F i).d))[3 * j]? = some (.int .i64 (F j).f) ∧ (set3 C q (.int .i64 (F i).f) (.int .i64 (F i).l) (.string (F i).d))[3 * j + 1]? = some (.int .i64 (F j).l) ∧ (set3 C q (.int .i64 (F i).f) (.int .i64 (F i).l) (.string (F i).d))[3 * j + 2]? = some (.string (F j).d)) := fun j hj => by
        by_cases hji : j < i
        · rw [set3_low _ _ _ _ _ _ (by omega), set3_low _ _ _ _ _ _ (by omega), set3_low _ _ _ _ _ _ (by omega)]
          exact HCC.out j hji
        · obtain rfl : j = i := by omega
          rw [← hq]
          exact ⟨set3_0 _ _ _ _ _ (by omega), set3_1 _ _ _ _ _ (by omega), set3_2 _ _ _ _ _ (by omega)⟩
      generalize C[q] = u0 at y0
      generalize C[q + 1] = u1 at y1
      generalize C[q + 2] = u2 at y2
      clear hsz hrow hbw hb3 x0 x1 x2 hq HB
      go_wp2_with fail
      go_roundw
      case rel => exact ⟨i + 1, _, by omega, by go_num, (set3_size _ _ _ _ _).trans HCS.out, HN, HN2⟩
      case measure => simp [intN]; omega
    · obtain rfl : i = n := by omega
      go_wp2_with fail
      go_ret
      have hr := HB.out.2
      exact ⟨rfl, ⟨(Array.getElem?_eq_some_iff.1 hr).1, fun j hj => (cell_of_row wr _ _ _ _ _ hr).trans (HCC.out j hj).1, fun j hj => (cell_of_row wr _ _ _ _ _ hr).trans (HCC.out j hj).2.1, fun j hj => (cell_of_row wr _ _ _ _ _ hr).trans (HCC.out j hj).2.2⟩, HB.out.1, _, hr, Nat.le_of_eq HCS.out.symm⟩
/-- a list of pieces that lies in a row of its own, made between two sizes of memory -/
def PcO (w : World) (B T : Nat) (v : Value) (n : Nat) : Prop := ∃ a c, v = .slice a n c ∧ (0 < n → ∃ g cur, a = some ⟨g, 0, none⟩ ∧ B ≤ g ∧ g < T ∧ w.heap[g]? = some (.cells cur 89 (0, 0)) ∧ 3 * n ≤ cur.size)
theorem toPcO_any (v : Value) (n : Nat) (F : Nat → PcI) (w : World) (hn : n ≤ 1048576) (h : PcIn w v n F) :
    Calls Try.prog 70 #[v] w fun e w' => (∃ v', e = .returned v' ∧ PcArg w' v' n F ∧ PcO w' w.heap.size w'.heap.size v' n) ∧ Below w.heap.size w w' := by
  obtain ⟨a, c, rfl, hr⟩ := h.form
  by_cases h0 : 0 < n
  · obtain ⟨g, off, rfl, hg, hx⟩ := hr h0
    refine (toPcO_some g off c n F w hn hg hx).mono ?_
    rintro e w' ⟨rfl, hrow, hb, cur, h1, h2⟩
    exact ⟨⟨_, rfl, ⟨_, _, rfl, fun _ => ⟨_, rfl, hrow⟩⟩, ⟨_, _, rfl, fun _ => ⟨_, cur, rfl, Nat.le_refl _, (Array.getElem?_eq_some_iff.1 h1).1, h1, h2⟩⟩⟩, hb⟩
  · obtain rfl : n = 0 := by omega
    refine (toPcS_zero a c w).mono ?_
    rintro e w' ⟨⟨b, rfl⟩, hb⟩
    exact ⟨⟨_, rfl, ⟨_, _, rfl, fun h => absurd h (by omega)⟩, ⟨_, _, rfl, fun h => absurd h (by omega)⟩⟩, hb⟩
theorem own3_PcO {w : World} {B n : Nat} {v : Value} {xs : List Value} (h : w.ownsRow B 89 3 v n xs) : PcO w B w.heap.size v n := by
  obtain ⟨a, c, rfl⟩ := own3_slice h
  refine ⟨a, c, rfl, fun h0 => ?_⟩
  obtain ⟨g, cap, cur, h1, h2, h3, h4, _⟩ := own3_form h h0
  cases h1
  exact ⟨g, cur, rfl, h2, (Array.getElem?_eq_some_iff.1 h3).1, h3, h4⟩
/-- which blocks are as they were: those that are not told -/
structure Kp (w w' : World) (bs : List (Nat × Nat)) : Prop where
  size : w.heap.size ≤ w'.heap.size
  same : ∀ k, k < w.heap.size → (∀ b ∈ bs, ¬ (b.1 ≤ k ∧ k < b.2)) → w'.heap[k]? = w.heap[k]?
theorem Kp.refl (w : World) (bs : List (Nat × Nat)) : Kp w w bs := ⟨Nat.le_refl _, fun _ _ _ => rfl⟩
theorem Kp.below {w w' w2 : World} {bs : List (Nat × Nat)} (h : Kp w w' bs) (hb : Below w'.heap.size w' w2) : Kp w w2 bs :=
  ⟨Nat.le_trans h.size hb.size, fun k hk hn => (hb.block k (Nat.lt_of_lt_of_le hk h.size)).trans (h.same k hk hn)⟩
theorem Kp.more {w w' : World} {bs : List (Nat × Nat)} (h : Kp w w' bs) (b : Nat × Nat) : Kp w w' (b :: bs) := ⟨h.size, fun k hk hn => h.same k hk fun c hc => hn c (List.mem_cons_of_mem _ hc)⟩
theorem PcO.kept {w w' : World} {bs : List (Nat × Nat)} {B T n : Nat} {v : Value} (h : PcO w B T v n) (hk : Kp w w' bs) (hd : ∀ b ∈ bs, b.2 ≤ B ∨ T ≤ b.1) : PcO w' B T v n := by
  obtain ⟨a, c, rfl, hr⟩ := h
  refine ⟨a, c, rfl, fun h0 => ?_⟩
  obtain ⟨g, cur, h1, h2, h3, h4, h5⟩ := hr h0
  exact ⟨g, cur, h1, h2, h3, (hk.same g (Array.getElem?_eq_some_iff.1 h4).1 fun b hb c => by rcases hd b hb with e | e <;> omega).trans h4, h5⟩
theorem PcArg.kept {w w' : World} {bs : List (Nat × Nat)} {B T n : Nat} {v : Value} {F : Nat → PcI} (h : PcArg w v n F) (ho : PcO w B T v n) (hk : Kp w w' bs) (hd : ∀ b ∈ bs, b.2 ≤ B ∨ T ≤ b.1) : PcArg w' v n F := by
  obtain ⟨a, c, rfl, hr⟩ := h
  refine ⟨a, c, rfl, fun h0 => ?_⟩
  obtain ⟨g, rfl, hrow⟩ := hr h0
  obtain ⟨a2, c2, e2, ho2⟩ := ho
  cases e2
  obtain ⟨g2, cur, e3, h2, h3, h4, _⟩ := ho2 h0
  cases e3
  have hb := hk.same g hrow.lt fun b hb c => by rcases hd b hb with e | e <;> omega
  exact ⟨g, rfl, Nat.lt_of_lt_of_le hrow.lt hk.size, fun i hi => (World.cell?_of_block (a := ⟨g, 3 * i, none⟩) hb).trans (hrow.c0 i hi), fun i hi => (World.cell?_of_block (a := ⟨g, 3 * i + 1, none⟩) hb).trans (hrow.c1 i hi), fun i hi => (World.cell?_of_block (a := ⟨g, 3 * i + 2, none⟩) hb).trans (hrow.c2 i hi)⟩
/-- a list that bears marks from k on -/
def MkL (w : World) (v : Value) (n k : Nat) : Prop := ∃ a c, v = .slice a n c ∧ (0 < n → ∃ g, a = some ⟨g, 0, none⟩ ∧ g < w.heap.size ∧ MkAt w g n k)
theorem MkL.below {w w' : World} {v : Value} {n k : Nat} (h : MkL w v n k) (hb : Below w.heap.size w w') : MkL w' v n k := by
  obtain ⟨a, c, rfl, hr⟩ := h
  refine ⟨a, c, rfl, fun h0 => ?_⟩
  obtain ⟨g, h1, h2, h3⟩ := hr h0
  exact ⟨g, h1, Nat.lt_of_lt_of_le h2 hb.size, h3.below hb h2⟩
theorem markL_any {B0 : Nat} {w00 : World} (v : Value) (n k B T : Nat) (w w0 : World) (bs : List (Nat × Nat)) (hn : n ≤ 1048576) (h1 : 1 ≤ k) (hk : k ≤ 4000000) (h : PcO w B T v n) (hkp : Kp w0 w bs) (hb : Below B0 w00 w) (hB0 : B0 ≤ B) (hT : w0.heap.size ≤ w.heap.size) :
    Calls Try.prog 52 #[v, .int .i64 (k : Int)] w fun e w' => (e = .returned (.int .i64 ((k + 3 * n : Nat) : Int)) ∧ MkL w' v n k) ∧ Kp w0 w' ((B, T) :: bs) ∧ Below B0 w00 w' := by
  obtain ⟨a, c, rfl, hr⟩ := h
  by_cases h0 : 0 < n
  · obtain ⟨g, cur, rfl, h2, h3, h4, h5⟩ := hr h0
    refine (markP_any g c n k cur w hn h1 hk h4 h5).mono ?_
    rintro e w' ⟨⟨rfl, hm⟩, hg⟩
    have hgl := (Array.getElem?_eq_some_iff.1 h4).1
    refine ⟨⟨rfl, _, _, rfl, fun _ => ⟨g, rfl, Nat.lt_of_lt_of_le hgl hg.size, hm⟩⟩, ⟨Nat.le_trans hkp.size hg.size, fun x hx hn2 => ?_⟩, hb.grown hg (Nat.le_of_lt (Nat.lt_of_le_of_lt (Nat.le_trans hB0 h2) hgl)) (fun x hx => by have := Option.some.inj hx; omega)⟩
    rw [hg.block x (Nat.lt_of_lt_of_le hx hkp.size) (fun e => hn2 (B, T) (List.mem_cons_self ..) (by have := Option.some.inj e; show B ≤ x ∧ x < T; omega))]
    exact hkp.same x hx fun b hb' => hn2 b (List.mem_cons_of_mem _ hb')
  · obtain rfl : n = 0 := by omega
    refine (markP_zero a c k w).mono ?_
    rintro e w' ⟨rfl, rfl⟩
    exact ⟨⟨rfl, _, _, rfl, fun h => absurd h (by omega)⟩, hkp.more _, hb⟩
theorem heldL_any (v : Value) (n k : Nat) (w : World) (hn : n ≤ 1048576) (h1 : 1 ≤ k) (hk : k ≤ 4000000) (h : MkL w v n k) :
    Calls Try.prog 53 #[v, .int .i64 (k : Int)] w fun e w' => e = .returned (.int .i64 ((k + 3 * n : Nat) : Int)) ∧ Below w.heap.size w w' := by
  obtain ⟨a, c, rfl, hr⟩ := h
  by_cases h0 : 0 < n
  · obtain ⟨g, rfl, h2, h3⟩ := hr h0
    exact heldP_any g c n k w hn h1 hk h2 h3
  · obtain rfl : n = 0 := by omega
    refine (heldP_zero a c k w).mono ?_
    rintro e w' ⟨rfl, rfl⟩
    exact ⟨rfl, Below.refl _ _⟩
end Go.Proofs.Ytpeddaljgmkomaa
