/-
  Chunks of the code answers as the model does: at every text and shape.
-/
import Derived.Test.YtneeledgokccgaoRows
import Derived.Test.YtneeledgokccgaoToShp
import Derived.Test.YtneeledgokccgaoChkS
import Derived.Test.YtneeledgokccgaoSMk
import Derived.WalkKit
import Derived.ProofKit
import Derived.OpenShut
import Derived.ShutString
import Derived.ChangeOld
import Derived.Below
import Derived.Lib.SmallJoins
import Derived.Deep.Strs
namespace Go.Proofs.Ytneeledgokccgao.fnExactChunks
open Go.ChangeShapes Go.WideShapes Go.ChangeAt Go.RowKit
open Go.ChangeMaps (open_string shut_string)
set_option linter.unusedVariables false

theorem own : ownKnob Try.prog.godebug = none := by kernel_rfl
theorem laidOut : laidOutB Try.prog = true := by kernel_rfl

theorem bl_trans2 {B C : Nat} {a b c : World} (h : Below B a b) (k : Below C b c) (hBC : B ≤ C) : Below B a c :=
  ⟨k.os.trans h.os, k.tape.trans h.tape, k.output.trans h.output, Nat.le_trans h.size k.size, fun i hi => (k.block i (Nat.lt_of_lt_of_le hi hBC)).trans (h.block i hi)⟩
theorem row_lt {w : World} {g : Nat} {o : Obj} (h : w.heap[g]? = some o) : g < w.heap.size := (Array.getElem?_eq_some_iff.1 h).1
theorem own_formI {w : World} {B n : Nat} {v : Value} {xs : List Value} (h : w.ownsRow B 9 1 v n xs) (h0 : 0 < n) :
    ∃ g cap cur, v = .slice (some ⟨g, 0, none⟩) n cap ∧ B ≤ g ∧ w.heap[g]? = some (.cells cur 9 (0, 0)) ∧ n ≤ cur.size ∧ ∀ (j : Nat) (u : Value), xs[j]? = some u → cur[j]? = some u := by
  obtain ⟨hl, ⟨_, h1⟩ | ⟨g, cap, cur, h1, h2, h3, h4, h5, h6, h7⟩⟩ := h
  · omega
  · refine ⟨g, cap, cur, h1, h2, h3, by omega, fun j u hj => ?_⟩
    rw [← h7, List.getElem?_take] at hj
    split at hj
    · simpa using hj
    · cases hj
theorem own_zeroI {w : World} {B : Nat} {v : Value} {xs : List Value} (h : w.ownsRow B 9 1 v 0 xs) : ∃ a c, v = .slice a 0 c := by
  obtain ⟨hl, ⟨h0, _⟩ | ⟨g, cap, cur, h1, _⟩⟩ := h
  · exact ⟨_, _, h0⟩
  · exact ⟨_, _, h1⟩
theorem shpN {l b m : Int} (h : shpP l b m) : ∃ L B M : Nat, l = (L : Int) ∧ b = (B : Int) ∧ m = (M : Int) ∧ (1 ≤ L ∧ L ≤ 1000) ∧ (1 ≤ B ∧ B ≤ 12) ∧ (L ≤ M ∧ M ≤ 4000) := by
  obtain ⟨⟨h1, h2⟩, ⟨h3, h4⟩, h5, h6⟩ := h
  exact ⟨l.toNat, b.toNat, m.toNat, by omega, by omega, by omega, by omega, by omega, by omega⟩
def rowS (l b m : Int) : Obj := .cells #[.int .i64 l, .int .i64 b, .int .i64 m] 26 (0, 0)
structure StC (l b m : Int) (w a : World) : Prop where
  row : a.heap[w.heap.size]? = some (rowS l b m)
  below : Below w.heap.size w a
theorem StC.lt {l b m : Int} {w a : World} (h : StC l b m w a) : w.heap.size < a.heap.size := row_lt h.row
theorem StC.call {l b m : Int} {w a c : World} (h : StC l b m w a) (hb : Below a.heap.size a c) : StC l b m w c := ⟨(hb.block _ h.lt).trans h.row, bl_trans2 h.below hb h.below.size⟩
theorem StC.only {l b m : Int} {w a c : World} {g : Nat} (h : StC l b m w a) (ho : World.grownBy a c (some g)) (hg : w.heap.size < g) : StC l b m w c := ⟨(ho.block _ h.lt (fun e => by have e2 : w.heap.size = g := Option.some.inj e; omega)).trans h.row, h.below.grown ho h.below.size (fun k e => by have := Option.some.inj e; omega)⟩
theorem owns_callC {w w' : World} {B : Nat} {e : TypeId} {v : Value} {n : Nat} {xs : List Value} (h : w.ownsRow B e 1 v n xs) (hb : Below w.heap.size w w') : w'.ownsRow B e 1 v n xs := by
  obtain ⟨h0, h1 | ⟨g, cap, cur, h1, h2, h3, h4, h5, h6, h7⟩⟩ := h
  · exact ⟨h0, Or.inl h1⟩
  · exact ⟨h0, Or.inr ⟨g, cap, cur, h1, h2, (hb.block g (Array.getElem?_eq_some_iff.1 h3).1).trans h3, h4, h5, h6, h7⟩⟩
set_option maxRecDepth 100000 in
set_option maxHeartbeats 4000000 in
theorem walk (s : ByteArray) (l b m : Int) (w : World) :
    Calls Try.prog 5 #[.string s, shpV l b m] w fun e w' => e = .returned (.bool true) ∧ Below w.heap.size w w' := by
  have HT : Hid (∀ w, Calls Try.prog 9 #[shpV l b m] w fun e w' => e = .returned (shpV l b m) ∧ Below w.heap.size w w') := fun w => toShp_any l b m w
  have hi : Option.map (·.size) (Try.prog.info? 26) = some 3 := by kernel_rfl
  have HS0 : Hid (StC l b m w (w.alloc (.cells #[.int .i64 l, .int .i64 b, .int .i64 m] 26))) := ⟨heap_alloc_new w _, (Below.refl _ _).alloc (Nat.le_refl _) _⟩
  by_cases hbig0 : (1048576 : Int) < (s.size : Int)
  · unfold shpV
    go_enter Try.func5, Try.ntmps5
    go_wp2_with fail
    go_ret
    exact ⟨rfl, (Below.refl _ _).alloc (Nat.le_refl _) _⟩
  have hss : s.size < 140737488351232 := by omega
  obtain ⟨xs, f, HA, HB, HN⟩ : ∃ (xs : List ByteArray) (f : Bool), Hid (∀ w, Calls Try.prog 14 #[.string s, shpV l b m] w fun e w' => (∃ v, e = .returned (.tuple #[v, .bool f]) ∧ w'.ownsRow w.heap.size 9 1 v xs.length (chkC xs)) ∧ Below w.heap.size w w') ∧
      Hid (∀ w, Calls Try.prog 15 #[.string s, shpV l b m] w fun e w' => (∃ v, e = .returned (.tuple #[v, .bool f]) ∧ w'.ownsRow w.heap.size 9 1 v xs.length (chkC xs)) ∧ Below w.heap.size w w') ∧ Hid (xs.length ≤ 40000) := by
    by_cases hp : shpP l b m ∧ s.size ≤ 4000
    · obtain ⟨L, B, M, rfl, rfl, rfl, h1, h2, h3⟩ := shpN hp.1
      exact ⟨chkL s 0 (cutL L B M 0 0 0 (lst s)), true, fun w => (by rw [chkL_len]; exact schunks_any L B M s hp.2 h1 h2 h3 w), fun w => (by rw [chkL_len]; exact chunks_any L B M s hp.2 h1 h2 h3 w), by
        show _ ≤ _
        rw [chkL_len]
        have := cutL_len (L := L) (B := B) (M := M) 0 0 0 (lst s)
        rw [lst_len] at this; omega⟩
    · exact ⟨[], false, fun w => (schunks_no l b m s hss hp w).mono (by rintro e w' ⟨rfl, hb⟩; exact ⟨⟨_, rfl, World.ownsRow_nil _ _ _ _⟩, hb⟩),
        fun w => (chunks_no l b m s hss hp w).mono (by rintro e w' ⟨rfl, hb⟩; exact ⟨⟨_, rfl, World.ownsRow_nil _ _ _ _⟩, hb⟩), by show 0 ≤ _; omega⟩
  unfold shpV at HT HA HB ⊢
  generalize hlen : xs.length = n at *
  go_enter Try.func5, Try.ntmps5
  go_wp2_with (refine wpList_load_row rfl 26 _ rfl (w.heap.size) rfl 26 #[.int .i64 l, .int .i64 b, .int .i64 m] (0, 0) _ HS0.out.row Try.underlying26 rfl hi ?_)
  refine (HT.out _).mono ?_
  rintro e w1 ⟨rfl, hb1⟩
  have HS1 : Hid (StC l b m w w1) := HS0.out.call hb1
  clear hb1 HS0
  go_wp2_with fail
  refine (HA.out _).mono ?_
  rintro e w2 ⟨⟨v2, rfl, ho2⟩, hb2⟩
  have HS2 : Hid (StC l b m w w2) := HS1.out.call hb2
  have HO2 : Hid (w2.ownsRow w1.heap.size 9 1 v2 n (chkC xs)) := ho2
  clear hb2 HS1 ho2
  go_wp2_with (refine wpList_load_row rfl 26 _ rfl (w.heap.size) rfl 26 #[.int .i64 l, .int .i64 b, .int .i64 m] (0, 0) _ HS2.out.row Try.underlying26 rfl hi ?_)
  refine (HT.out _).mono ?_
  rintro e w3 ⟨rfl, hb3⟩
  have HS3 : Hid (StC l b m w w3) := HS2.out.call hb3
  have HO3 : Hid (w3.ownsRow w1.heap.size 9 1 v2 n (chkC xs)) := owns_callC HO2.out hb3
  clear hb3 HS2 HO2
  go_wp2_with fail
  refine (HB.out _).mono ?_
  rintro e w4 ⟨⟨v4, rfl, ho4⟩, hb4⟩
  have HS4 : Hid (StC l b m w w4) := HS3.out.call hb4
  by_cases hn0 : n = 0
  · subst hn0
    obtain ⟨a4, c4, rfl⟩ := own_zeroI ho4
    obtain ⟨a2, c2, rfl⟩ := own_zeroI HO3.out
    clear ho4 hb4 HO3 HS3
    have HE : Hid (∀ a b c d w, _) := fun a b c d w => eqS_zero a b c d w
    have HM : Hid (∀ a c w, _) := fun a c w => markS_zero a c w
    have HH : Hid (∀ a c w, _) := fun a c w => heldS_zero a c w
    go_wp2_with fail
    refine (HE.out _ _ _ _ _).mono ?_
    rintro e w5 ⟨rfl, hb5⟩
    have HS5 : Hid (StC l b m w w5) := HS4.out.call hb5
    clear hb5 HS4
    cases f <;>
      (go_wp2_with fail
       refine (HM.out _ _ _).mono ?_
       rintro e w' ⟨rfl, hw⟩
       subst w'
       go_wp2_with fail
       refine (HH.out _ _ _).mono ?_
       rintro e w' ⟨rfl, hw⟩
       subst w'
       go_wp2_with (refine wpList_load_row rfl 26 _ rfl (w.heap.size) rfl 26 #[.int .i64 l, .int .i64 b, .int .i64 m] (0, 0) _ HS5.out.row Try.underlying26 rfl hi ?_)
       refine (HT.out _).mono ?_
       rintro e w6 ⟨rfl, hb6⟩
       have HS6 : Hid (StC l b m w w6) := HS5.out.call hb6
       clear hb6
       go_wp2_with fail
       refine (HB.out _).mono ?_
       rintro e w7 ⟨⟨v7, rfl, ho7⟩, hb7⟩
       have HS7 : Hid (StC l b m w w7) := HS6.out.call hb7
       obtain ⟨a7, c7, rfl⟩ := own_zeroI ho7
       clear ho7 hb7
       go_wp2_with fail
       refine (HE.out _ _ _ _ _).mono ?_
       rintro e w8 ⟨rfl, hb8⟩
       have HS8 : Hid (StC l b m w w8) := HS7.out.call hb8
       clear hb8
       go_wp2_with fail
       refine (HH.out _ _ _).mono ?_
       rintro e w' ⟨rfl, hw⟩
       subst w'
       go_wp2_with fail
       go_ret
       exact ⟨rfl, HS8.out.below⟩)
  · have h0 : 0 < n := by omega
    obtain ⟨g4, c4, cur4, rfl, hg4, hr4, hs4, hx4⟩ := own_formI ho4 h0
    obtain ⟨g2, c2, cur2, rfl, hg2, hr2, hs2, hx2⟩ := own_formI (owns_callC HO3.out hb4) h0
    have hg2' : g2 < w3.heap.size := by
      obtain ⟨g', c', cur', he, hg', hr', hs', hx'⟩ := own_formI HO3.out h0
      cases he
      exact row_lt hr'
    have HG : Hid (w.heap.size < g4 ∧ g2 < g4 ∧ n ≤ cur4.size ∧ g4 < w4.heap.size ∧ g2 < w4.heap.size ∧ w4.heap[g4]? = some (.cells cur4 9 (0, 0)) ∧ w4.heap[g2]? = some (.cells cur2 9 (0, 0))) :=
      ⟨by have := HS3.out.lt; omega, by omega, hs4, row_lt hr4, row_lt hr2, hr4, hr2⟩
    have HX2 : Hid (∀ (j : Nat) (u : Value), (chkC xs)[j]? = some u → cur2[j]? = some u) := hx2
    have HE4 : Hid (Calls Try.prog 16 #[.slice (some ⟨g4, 0, none⟩) n c4, .slice (some ⟨g2, 0, none⟩) n c2] w4 fun e w' => e = .returned (.bool true) ∧ Below w4.heap.size w4 w') :=
      eqS_any g4 g2 c4 c2 n xs w4 HN.out hlen (fun j v hj => (cell_of_row w4 _ j _ _ _ hr4).trans (hx4 j v hj)) (fun j v hj => (cell_of_row w4 _ j _ _ _ hr2).trans (hx2 j v hj))
    clear ho4 hb4 HO3 HS3 hg4 hr4 hs4 hx4 hg2 hr2 hs2 hx2 hg2'
    go_wp2_with fail
    refine HE4.out.mono ?_
    rintro e w5 ⟨rfl, hb5⟩
    have HS5 : Hid (StC l b m w w5) := HS4.out.call hb5
    have HR5 : Hid (w5.heap[g4]? = some (.cells cur4 9 (0, 0)) ∧ w5.heap[g2]? = some (.cells cur2 9 (0, 0))) := ⟨(hb5.block _ HG.out.2.2.2.1).trans HG.out.2.2.2.2.2.1, (hb5.block _ HG.out.2.2.2.2.1).trans HG.out.2.2.2.2.2.2⟩
    clear hb5 HS4 HE4
    obtain ⟨K, hK⟩ : ∃ K : Nat, K = n + 1 := ⟨_, rfl⟩
    have HK : Hid (K = n + 1) := hK
    have HM : Hid (Calls Try.prog 17 #[.slice (some ⟨g4, 0, none⟩) n c4, .int .i64 1] w5 fun e w' => (e = .returned (.int .i64 (K : Int)) ∧ ∀ j, j < n → w'.cell? ⟨g4, j, none⟩ = some (.string (mkT (j + 1)))) ∧ w5.grownBy w' (some g4)) := by
      show Calls _ _ _ _ _
      rw [hK]
      exact markS_any g4 c4 n 0 cur4 w5 HN.out (Nat.zero_le _) HR5.out.1 HG.out.2.2.1
    have HH : Hid (∀ w', g4 < w'.heap.size → (∀ j, j < n → w'.cell? ⟨g4, j, none⟩ = some (.string (mkT (j + 1)))) → Calls Try.prog 18 #[.slice (some ⟨g4, 0, none⟩) n c4, .int .i64 1] w' fun e w'' => e = .returned (.int .i64 (K : Int)) ∧ Below w'.heap.size w' w'') := fun w' hgw hc => by
      rw [HK.out]
      exact heldS_any g4 c4 n w' HN.out hgw hc
    have hnn : ¬ (K : Int) < 0 := by omega
    clear hK
    cases f <;>
      (go_wp2_with fail
       refine HM.out.mono ?_
       rintro e w6 ⟨⟨rfl, hm6⟩, ho6⟩
       have HM6 : Hid (∀ j, j < n → w6.cell? ⟨g4, j, none⟩ = some (.string (mkT (j + 1)))) := hm6
       have HS6 : Hid (StC l b m w w6) := HS5.out.only ho6 HG.out.1
       have HR6 : Hid (w6.heap[g2]? = some (.cells cur2 9 (0, 0)) ∧ g4 < w6.heap.size) := ⟨(ho6.block _ (row_lt HR5.out.2) (fun e => by have e2 : g2 = g4 := Option.some.inj e; have := HG.out.2.1; omega)).trans HR5.out.2, Nat.lt_of_lt_of_le (row_lt HR5.out.1) ho6.size⟩
       clear hm6 ho6
       go_wp2_with fail
       refine (HH.out _ HR6.out.2 HM6.out).mono ?_
       rintro e w6' ⟨rfl, hb6⟩
       have HS6' : Hid (StC l b m w w6') := HS6.out.call hb6
       have HM6' : Hid (∀ j, j < n → w6'.cell? ⟨g4, j, none⟩ = some (.string (mkT (j + 1)))) := fun j hj => (hb6.cell (p := ⟨g4, j, none⟩) HR6.out.2).trans (HM6.out j hj)
       have HR6' : Hid (w6'.heap[g2]? = some (.cells cur2 9 (0, 0)) ∧ g4 < w6'.heap.size) := ⟨(hb6.block _ (row_lt HR6.out.1)).trans HR6.out.1, Nat.lt_of_lt_of_le HR6.out.2 hb6.size⟩
       clear hb6 HS6 HM6 HR6
       go_wp2_with (refine wpList_load_row rfl 26 _ rfl (w.heap.size) rfl 26 #[.int .i64 l, .int .i64 b, .int .i64 m] (0, 0) _ HS6'.out.row Try.underlying26 rfl hi ?_)
       refine (HT.out _).mono ?_
       rintro e w7 ⟨rfl, hb7⟩
       have HS7 : Hid (StC l b m w w7) := HS6'.out.call hb7
       have HM7 : Hid (∀ j, j < n → w7.cell? ⟨g4, j, none⟩ = some (.string (mkT (j + 1)))) := fun j hj => (hb7.cell (p := ⟨g4, j, none⟩) HR6'.out.2).trans (HM6'.out j hj)
       have HR7 : Hid (w7.heap[g2]? = some (.cells cur2 9 (0, 0)) ∧ g4 < w7.heap.size) := ⟨(hb7.block _ (row_lt HR6'.out.1)).trans HR6'.out.1, Nat.lt_of_lt_of_le HR6'.out.2 hb7.size⟩
       clear hb7
       go_wp2_with fail
       refine (HB.out _).mono ?_
       rintro e w8 ⟨⟨v8, rfl, ho8⟩, hb8⟩
       have HS8 : Hid (StC l b m w w8) := HS7.out.call hb8
       have HM8 : Hid (∀ j, j < n → w8.cell? ⟨g4, j, none⟩ = some (.string (mkT (j + 1)))) := fun j hj => (hb8.cell (p := ⟨g4, j, none⟩) HR7.out.2).trans (HM7.out j hj)
       have HL8 : Hid (g4 < w8.heap.size) := Nat.lt_of_lt_of_le HR7.out.2 hb8.size
       obtain ⟨g8, c8, cur8, rfl, hg8, hr8, hs8, hx8⟩ := own_formI ho8 h0
       have HE8 : Hid (Calls Try.prog 16 #[.slice (some ⟨g8, 0, none⟩) n c8, .slice (some ⟨g2, 0, none⟩) n c2] w8 fun e w' => e = .returned (.bool true) ∧ Below w8.heap.size w8 w') :=
         eqS_any g8 g2 c8 c2 n xs w8 HN.out hlen (fun j v hj => (cell_of_row w8 _ j _ _ _ hr8).trans (hx8 j v hj)) (fun j v hj => (cell_of_row w8 _ j _ _ _ ((hb8.block _ (row_lt HR7.out.1)).trans HR7.out.1)).trans (HX2.out j v hj))
       clear ho8 hb8 hg8 hr8 hs8 hx8
       go_wp2_with fail
       refine HE8.out.mono ?_
       rintro e w9 ⟨rfl, hb9⟩
       have HS9 : Hid (StC l b m w w9) := HS8.out.call hb9
       have HM9 : Hid (∀ j, j < n → w9.cell? ⟨g4, j, none⟩ = some (.string (mkT (j + 1)))) := fun j hj => (hb9.cell (p := ⟨g4, j, none⟩) HL8.out).trans (HM8.out j hj)
       have HZ9 : Hid (w8.heap.size ≤ w9.heap.size) := hb9.size
       clear hb9
       go_wp2_with fail
       refine (HH.out _ (Nat.lt_of_lt_of_le HL8.out HZ9.out) HM9.out).mono ?_
       rintro e w10 ⟨rfl, hb10⟩
       have HS10 : Hid (StC l b m w w10) := HS9.out.call hb10
       clear hb10
       go_wp2_with fail
       go_ret
       exact ⟨rfl, HS10.out.below⟩)
theorem array3x {α : Type} {cs : Array α} (h : cs.size = 3) : ∃ c0 c1 c2, cs = #[c0, c1, c2] := by
  obtain ⟨l⟩ := cs
  match l, h with
  | [c0, c1, c2], _ => exact ⟨c0, c1, c2, rfl⟩
set_option maxRecDepth 100000 in
theorem read3 {H : Type} {enc : TypeId × Value → H} {W : World} {v : Value} {d : DataW H} {ps : List MemPlace} (h0 : DataW.Trod enc Try.prog W 0 (fun _ => true) true 26 v d ps) (ho : Value.okWide Try.prog W .any 0 26 v) :
    ∃ l b m : Int, v = shpV l b m := by
  obtain ⟨cs, rfl, hsz⟩ := okWide_struct Try.underlying26 ho
  have hsz3 : cs.size = 3 := hsz.trans (by kernel_rfl)
  obtain ⟨c0, c1, c2, rfl⟩ := array3x hsz3
  obtain ⟨fuel, hf⟩ := h0
  obtain ⟨y0, y1, y2, n, _, _, t0, t1, t2⟩ := Go.Deep.trod_struct3 Try.underlying26 hf
  have cI : Try.prog.cellsOf 2 = 1 := by kernel_rfl
  obtain ⟨l, e0, _⟩ := DataW.trod_int Try.underlying2 t0
  obtain ⟨b, e1, _⟩ := DataW.trod_int Try.underlying2 t1
  obtain ⟨m, e2, _⟩ := DataW.trod_int Try.underlying2 t2
  rw [cI] at e0 e1 e2
  refine ⟨l, b, m, ?_⟩
  simp [Value.cells] at e0 e1 e2
  rw [e0, e1, e2]; rfl
set_option maxRecDepth 100000 in
theorem lifted (os : Os) (started : os.Started) (H : Type) (enc : TypeId × Value → H) :
    ReturnsInHanded {} Try.checked os 5 .any (Rows.fnExactChunksSpec.pre6 enc Try.prog Try.f5 Rows.fnExactChunksRow.domain false) (Rows.fnExactChunksSpec.post enc Try.prog Try.f5 false true false false) := by
  refine returnsInHanded_of_change (C := Try.checked) own started (by kernel_rfl) Try.func5
    (ChangeSpec.witness6 (enc := enc) (C := Try.checked) false ⟨#[], #[.string ByteArray.empty, .agg #[.int .i64 0, .int .i64 0, .int .i64 0]], []⟩ 8 (by kernel_rfl) (by kernel_rfl) (by kernel_rfl) (by kernel_rfl)) ?_
  intro W base args ds gs before hval0 hW hcnd _
  have hval : ∀ (j : Nat) t v, Try.f5.params[j]? = some t → args[j]? = some v → Value.okWide Try.prog W .any base t v := hval0
  have hW' := hW
  obtain ⟨p, q, hA0, hV, rfl, hfz, hnd⟩ := hW
  have hA : DataW.TrodAll enc Try.prog W 0 (fun _ => true) true Try.f5.params.toList args.toList ds p := hA0
  rw [Try.params5] at hA hval
  obtain ⟨v0, vs0, d0, ds0, p0, q0, hargs, rfl, rfl, h0, r0⟩ := trodAll_cons hA
  obtain ⟨v1, vs1, d1, ds1, p1, q1, rfl, rfl, rfl, h1, r1⟩ := trodAll_cons r0
  obtain ⟨rfl, rfl, rfl⟩ := trodAll_nil r1
  obtain rfl : args = #[v0, v1] := by cases args; simp_all
  obtain ⟨rfl, rfl⟩ := trodVars_none hV
  obtain ⟨s, rfl, rfl, rfl, ws⟩ := open_string Try.underlying9 (hval 0 _ v0 rfl rfl) h0
  obtain ⟨l, b, m, rfl⟩ := read3 h1 (Value.okWide_any_base (hval 1 _ v1 rfl rfl))
  have k0 := h1
  have lt0 : ∀ x ∈ p1, x.block < W.heap.size := by obtain ⟨m, hm⟩ := k0; exact DataW.trod_lt m _ _ _ hm
  clear hA0 hval0
  refine (walk s l b m W).mono fun e W' ⟨he, bel⟩ => ?_
  subst he
  exact ⟨_, rfl, _, _, _, [], _, [], hW', trodAll_mk1 (shut_bool Try.underlying4 _), (trodAll_cons_mk (shut_string Try.underlying9 ws) (trodAll_cons_mk (Below.trod laidOut (by kernel_rfl) (of_decide_eq_true (by kernel_rfl)) k0 bel lt0) trodAll_mk0)), rfl, bel.frame _, fun h => by cases h⟩

theorem over : Rows.fnExactChunksRow.holds Try.pinned (OpenSpec.ofChange Rows.fnExactChunksSpec) :=
  OpenClaim.holds_of_wide 5 Try.f5 rfl rfl rfl rfl rfl rfl rfl ⟨rfl, rfl, rfl, rfl, rfl⟩ rfl rfl rfl rfl rfl (by kernel_rfl) Try.func5 (by kernel_rfl)
    (of_decide_eq_true (by kernel_rfl)) (by unfold Func.isWrapper; first | (rw [if_pos (by decide +kernel)]; kernel_rfl) | (rw [if_neg (by decide +kernel)]; exact ⟨rfl, rfl⟩))
    (fun os started H enc _ => lifted os started H enc)
theorem proved : Rows.FnExactChunksSaid :=
  over
#print axioms proved
end Go.Proofs.Ytneeledgokccgao.fnExactChunks
