/-
  Lists of integers in memory; two that are alike; the bits and contexts of a list of choices.
-/
import Derived.Test.YtmckchklebohmacAppF
import Derived.Test.YtmckchklebohmacRngZ
import Derived.BigQuiet
namespace Go.Proofs.Ytmckchklebohmac
open Go.RowKit
set_option linter.unusedVariables false
set_option linter.unusedSimpArgs false
theorem bl3i {B C : Nat} {a b c : World} (h : Below B a b) (k : Below C b c) (hBC : B ≤ C) : Below B a c := ⟨k.os.trans h.os, k.tape.trans h.tape, k.output.trans h.output, Nat.le_trans h.size k.size, fun i hi => (k.block i (Nat.lt_of_lt_of_le hi hBC)).trans (h.block i hi)⟩
structure IRow (w : World) (g n : Nat) (F : Nat → Int) : Prop where
  lt : g < w.heap.size
  c : ∀ i, i < n → w.cell? ⟨g, i, none⟩ = some (.int .i64 (F i))
theorem IRow.below {w w' : World} {g n B : Nat} {F : Nat → Int} (h : IRow w g n F) (hb : Below B w w') (hg : g < B) : IRow w' g n F :=
  ⟨Nat.lt_of_lt_of_le h.lt hb.size, fun i hi => (hb.cell (p := ⟨g, i, none⟩) hg).trans (h.c i hi)⟩
def IArg (w : World) (v : Value) (n : Nat) (F : Nat → Int) : Prop := ∃ a c, v = .slice a n c ∧ n ≤ c ∧ (0 < n → ∃ g, a = some ⟨g, 0, none⟩ ∧ IRow w g n F)
theorem IArg.on {w w' : World} {v : Value} {n : Nat} {F : Nat → Int} (h : IArg w v n F) (hb : Below w.heap.size w w') : IArg w' v n F := by
  obtain ⟨a, c, h1, h0, h2⟩ := h
  exact ⟨a, c, h1, h0, fun k => by obtain ⟨g, e, r⟩ := h2 k; exact ⟨g, e, r.below hb r.lt⟩⟩
/-- a row of integers that is one's own -/
def iC (F : Nat → Int) (n : Nat) : List Value := (List.range n).map fun j => .int .i64 (F j)
theorem iC_succ (F : Nat → Int) (n : Nat) : iC F (n + 1) = iC F n ++ [.int .i64 (F n)] := by simp [iC, List.range_succ]
theorem iarg_own {w : World} {B n : Nat} {e : TypeId} {v : Value} {F : Nat → Int} (h : w.ownsRow B e 1 v n (iC F n)) : IArg w v n F := by
  have h0 := h
  obtain ⟨_, ⟨rfl, hn⟩ | ⟨g, cap, cur, rfl, h2, h3, h4, _⟩⟩ := h
  · exact ⟨none, 0, by rw [hn], by omega, fun k => by omega⟩
  · refine ⟨some ⟨g, 0, none⟩, cap, rfl, h4, fun k => ⟨g, rfl, (Array.getElem?_eq_some_iff.1 h3).1, fun i hi => ?_⟩⟩
    have hc := h0.cells (g := g) rfl i (.int .i64 (F i)) (by unfold iC; rw [List.getElem?_map, List.getElem?_range (by omega)]; rfl)
    have hadd : (⟨g, 0, none⟩ : Addr).add i = ⟨g, i, none⟩ := by unfold Addr.add; split <;> simp_all
    rw [hadd] at hc
    exact hc
/-- likewise, a row that is there -/
def IAS (w : World) (v : Value) (n : Nat) (F : Nat → Int) : Prop := ∃ g c, v = .slice (some ⟨g, 0, none⟩) n c ∧ n ≤ c ∧ IRow w g n F
theorem IAS.on {w w' : World} {v : Value} {n : Nat} {F : Nat → Int} (h : IAS w v n F) (hb : Below w.heap.size w w') : IAS w' v n F := by
  obtain ⟨g, c, h1, h0, h2⟩ := h
  exact ⟨g, c, h1, h0, h2.below hb h2.lt⟩
theorem IAS.arg {w : World} {v : Value} {n : Nat} {F G : Nat → Int} (h : IAS w v n F) (he : ∀ i, i < n → F i = G i) : IArg w v n G := by
  obtain ⟨g, c, h1, h0, h2⟩ := h
  exact ⟨_, c, h1, h0, fun _ => ⟨g, rfl, h2.lt, fun i hi => by rw [h2.c i hi, he i hi]⟩⟩
theorem IAS.cut {w : World} {g c n k : Nat} {F : Nat → Int} (h : IAS w (.slice (some ⟨g, 0, none⟩) n c) n F) (hk : k ≤ n) : IAS w (.slice (some ⟨g, 0, none⟩) k c) k F := by
  obtain ⟨g', c', h1, h0, h2⟩ := h
  cases h1
  exact ⟨g, c, rfl, by omega, h2.lt, fun i hi => h2.c i (by omega)⟩
theorem ias_own {w : World} {B n g c : Nat} {e : TypeId} {F : Nat → Int} (h : w.ownsRow B e 1 (.slice (some ⟨g, 0, none⟩) n c) n (iC F n)) : IAS w (.slice (some ⟨g, 0, none⟩) n c) n F := by
  have h0 := h
  obtain ⟨_, ⟨h1, hn⟩ | ⟨g', cap, cur, h1, h2, h3, h4, _⟩⟩ := h
  · cases h1
  · cases h1
    refine ⟨g, c, rfl, h4, (Array.getElem?_eq_some_iff.1 h3).1, fun i hi => ?_⟩
    have hc := h0.cells (g := g) rfl i (.int .i64 (F i)) (by unfold iC; rw [List.getElem?_map, List.getElem?_range (by omega)]; rfl)
    have hadd : (⟨g, 0, none⟩ : Addr).add i = ⟨g, i, none⟩ := by unfold Addr.add; split <;> simp_all
    rw [hadd] at hc
    exact hc
def intOfI : Value → Nat
  | .int _ i => i.toNat
  | _ => 0
set_option maxRecDepth 100000 in
set_option maxHeartbeats 1000000 in
theorem same_yes (v1 v2 : Value) (n : Nat) (F G : Nat → Int) (w : World) (h1 : IArg w v1 n F) (h2 : IArg w v2 n G) (he : ∀ i, i < n → F i = G i) (hn : n ≤ 1099511627776) :
    Calls Try.prog 14 #[v1, v2] w fun e w' => e = .returned (.bool true) ∧ Below w.heap.size w w' := by
  have H1 : Hid (IArg w v1 n F) := h1
  have H2 : Hid (IArg w v2 n G) := h2
  have HE : Hid (∀ i, i < n → F i = G i) := he
  obtain ⟨a1, c1, rfl, _⟩ := h1
  obtain ⟨a2, c2, rfl, _⟩ := h2
  clear he
  go_enter Try.func14, Try.ntmps14
  go_wp2_with fail
  go_loopw [5] (fun v wr => ∃ i : Nat, i ≤ n ∧ v = .int .i64 (i : Int) ∧ Hid (Below w.heap.size w wr)) (fun v _ => n - intOfI v)
  case atStart => exact ⟨0, by omega, rfl, Below.refl _ _⟩
  case round =>
    obtain ⟨i, hi, rfl, HB⟩ := hrel
    by_cases hlt : i < n
    · have hltI : (i : Int) < (n : Int) := by omega
      obtain ⟨b1, d1, e1, _, k1⟩ := H1.out.on HB.out
      obtain ⟨b2, d2, e2, _, k2⟩ := H2.out.on HB.out
      cases e1
      cases e2
      obtain ⟨g1, rfl, r1⟩ := k1 (by omega)
      obtain ⟨g2, rfl, r2⟩ := k2 (by omega)
      have x1 := r1.c i hlt
      have x2 := r2.c i hlt
      rw [HE.out i hlt] at x1
      generalize G i = z at x1 x2
      clear r1 r2 k1 k2
      have HB2 : Hid (∀ k, Below w.heap.size w (wr.drewN k)) := fun k => ⟨HB.out.os, HB.out.tape, HB.out.output, HB.out.size, HB.out.block⟩
      go_wp2_with fail
      go_quiet (fail)
      go_wp2_with fail
      go_roundw
      case rel => exact ⟨i + 1, by omega, by go_num, HB2.out _⟩
      case measure => simp [intOfI]; omega
    · obtain rfl : i = n := by omega
      go_wp2_with fail
      go_ret
      exact ⟨rfl, HB.out⟩
theorem Try.infI64 : (Try.prog.info? 2).map (fun i => (i.zero, i.size, i.bytes)) = some (some (.int .i64 0), 1, 8) := by kernel_rfl
set_option maxRecDepth 100000 in
set_option maxHeartbeats 2000000 in
theorem bitsOf_any (v : Value) (n : Nat) (F : Nat → Int × Int) (w : World) (h : ChArg w v n F) (hn : n ≤ 1000000) :
    Calls Try.prog 12 #[v] w fun e w' => (∃ v1 v2, e = .returned (.tuple #[v1, v2]) ∧ IAS w' v1 n (fun i => (F i).2) ∧ IAS w' v2 n (fun i => (F i).1)) ∧ Below w.heap.size w w' := by
  obtain ⟨i0, hi0, hz0, hz1, hz2⟩ := info_parts Try.infI64
  have HA : Hid (ChArg w v n F) := h
  obtain ⟨a, c, rfl, _⟩ := h
  obtain ⟨B, hB⟩ : ∃ B, B = w.heap.size := ⟨_, rfl⟩
  have HBE : Hid (B = w.heap.size) := hB
  go_enter Try.func12, Try.ntmps12
  go_wp2_with fail
  go_loopw [4, 5, 6] (fun v1 v2 v wr => ∃ (i g1 c1 g2 c2 : Nat), i ≤ n ∧ v1 = .slice (some ⟨g1, 0, none⟩) i c1 ∧ v2 = .slice (some ⟨g2, 0, none⟩) i c2 ∧ v = .int .i64 (i : Int) ∧ Hid (wr.ownsRow B 2 1 (.slice (some ⟨g1, 0, none⟩) i c1) i (iC (fun i => (F i).2) i) ∧ wr.ownsRow B 2 1 (.slice (some ⟨g2, 0, none⟩) i c2) i (iC (fun i => (F i).1) i) ∧ g1 ≠ g2 ∧ Below B w wr)) (fun _ _ v _ => n - intOfI v)
  case atStart =>
    refine ⟨0, w.heap.size, 0, w.heap.size + 1, 0, by omega, rfl, by simp, rfl, ?_, ?_, by omega, ?_⟩
    · exact (World.ownsRow_made w #[] 0 (by omega) (by unfold maxLen; omega) rfl).alloc _
    · have h := World.ownsRow_made (base := B) (e := 2) (size := 1) (w.alloc (.cells #[] 2)) #[] 0 (by simp; omega) (by unfold maxLen; omega) rfl
      simpa [iC] using h
    · rw [hB]; exact ((Below.refl _ w).alloc (Nat.le_refl _) _).alloc (by simp) _
  case round =>
    obtain ⟨i, g1, c1, g2, c2, hi, rfl, rfl, rfl, HO⟩ := hrel
    by_cases hlt : i < n
    · have hltI : (i : Int) < (n : Int) := by omega
      have hbw : Below w.heap.size w wr := by have := HO.out.2.2.2; rw [HBE.out] at this; exact this
      obtain ⟨a', c', e1, hr⟩ := HA.out.below hbw
      cases e1
      obtain ⟨g, rfl, hrow⟩ := hr (by omega)
      obtain ⟨q, hq⟩ : ∃ q, q = 2 * i := ⟨_, rfl⟩
      have hiq : i * 2 = q := by omega
      have x0 := hrow.x i hlt
      have x1 := hrow.b i hlt
      rw [← hq] at x0 x1
      have hgl : g < wr.heap.size := hrow.lt
      have hgw : Hid (g < B) := by
        obtain ⟨a3, c3, e3, hr3⟩ := HA.out
        cases e3
        obtain ⟨g3, e4, hr4⟩ := hr3 (by omega)
        cases e4
        rw [hB]; exact hr4.lt
      have HE1 : Hid (iC (fun i => (F i).2) (i + 1) = iC (fun i => (F i).2) i ++ [.int .i64 (F i).2]) := iC_succ _ _
      have HE2 : Hid (iC (fun i => (F i).1) (i + 1) = iC (fun i => (F i).1) i ++ [.int .i64 (F i).1]) := iC_succ _ _
      have hBl : B ≤ wr.heap.size := by have := HO.out.2.2.2.size; omega
      clear hbw hrow hq hr hB
      generalize (F i).1 = y0 at x0 HE2
      generalize (F i).2 = y1 at x1 HE1
      go_wp2_with (at_builtin; refine wpList_append_fr _ rfl _ _ 28 rfl B 2 i0 (.int .i64 0) 1 8 Try.underlying28 hi0 hz0 hz1 hz2 rfl (by decide) g1 c1 i _ rfl (HO.out.1.alloc _) ⟨wr.heap.size, 0, none⟩ 1 1 [_] rfl rfl (cell_one_new _ _ _) ?c2 ?c3 ?c4 ?c5 ?_)
      case c2 => intro u hu; simp at hu; subst hu; rfl
      case c3 => unfold maxLen; omega
      case c4 => omega
      case c5 => simp; omega
      intro g3 c3 w3 o3 gr3 hg3
      rw [← HE1.out] at o3
      have hsz3 := gr3.size
      have ho2 : w3.ownsRow B 2 1 (.slice (some ⟨g2, 0, none⟩) i c2) i (iC (fun i => (F i).1) i) := (HO.out.2.1.alloc (.cells #[.int .i64 y1] 2)).kept gr3 (Or.inr (by simp only [Value.ownBlock]; intro e; exact HO.out.2.2.1 (Option.some.inj e).symm))
      have hlt1 := HO.out.1.lt g1 rfl
      have hlt2 := HO.out.2.1.lt g2 rfl
      have hne3 : g3 ≠ g2 := by
        rcases hg3 with rfl | h
        · exact HO.out.2.2.1
        · have h' : wr.heap.size + 1 ≤ g3 := by simpa using h
          omega
      have hb3 : Below B w w3 := (HO.out.2.2.2.alloc hBl _).grown gr3 (by simp; omega) (fun k hk => by have := Option.some.inj hk; omega)
      have y0c : w3.cell? ⟨g, q, none⟩ = some (.int .i64 y0) := gr3.cell (a := ⟨g, q, none⟩) ((World.cell?_of_block (a := ⟨g, q, none⟩) (Below.heap_alloc wr _ g hgl)).trans x0) (by show some g ≠ some g1; intro e; have := Option.some.inj e; have := hgw.out; omega)
      have HO3 : Hid (w3.ownsRow B 2 1 (.slice (some ⟨g3, 0, none⟩) (i + 1) c3) (i + 1) (iC (fun i => (F i).2) (i + 1)) ∧ w3.ownsRow B 2 1 (.slice (some ⟨g2, 0, none⟩) i c2) i (iC (fun i => (F i).1) i) ∧ g3 ≠ g2 ∧ Below B w w3 ∧ B ≤ w3.heap.size) := ⟨o3, ho2, hne3, hb3, by simp at hsz3; omega⟩
      clear o3 gr3 hg3 ho2 hne3 hb3 HO hlt1 hlt2 hsz3 x0 x1 hgl HE1
      go_wp2_with (at_builtin; refine wpList_append_fr _ rfl _ _ 28 rfl B 2 i0 (.int .i64 0) 1 8 Try.underlying28 hi0 hz0 hz1 hz2 rfl (by decide) g2 c2 i _ rfl (HO3.out.2.1.alloc _) ⟨w3.heap.size, 0, none⟩ 1 1 [_] rfl rfl (cell_one_new _ _ _) ?c2 ?c3 ?c4 ?c5 ?_)
      case c2 => intro u hu; simp at hu; subst hu; rfl
      case c3 => unfold maxLen; omega
      case c4 => omega
      case c5 => have := HO3.out.2.2.2.2; simp; omega
      intro g4 c4 w4 o4 gr4 hg4
      rw [← HE2.out] at o4
      have hlt1 := HO3.out.1.lt g3 rfl
      have hlt2 := HO3.out.2.1.lt g2 rfl
      have ho1 : w4.ownsRow B 2 1 (.slice (some ⟨g3, 0, none⟩) (i + 1) c3) (i + 1) (iC (fun i => (F i).2) (i + 1)) := (HO3.out.1.alloc (.cells #[.int .i64 y0] 2)).kept gr4 (Or.inr (by simp only [Value.ownBlock]; intro e; exact HO3.out.2.2.1 (Option.some.inj e)))
      have hne4 : g3 ≠ g4 := by
        rcases hg4 with rfl | h
        · exact HO3.out.2.2.1
        · have h' : w3.heap.size + 1 ≤ g4 := by simpa using h
          omega
      have hb4 : Below B w w4 := (HO3.out.2.2.2.1.alloc HO3.out.2.2.2.2 _).grown gr4 (by have := HO3.out.2.2.2.2; simp; omega) (fun k hk => by have := Option.some.inj hk; omega)
      have HO4 : Hid (w4.ownsRow B 2 1 (.slice (some ⟨g3, 0, none⟩) (i + 1) c3) (i + 1) (iC (fun i => (F i).2) (i + 1)) ∧ w4.ownsRow B 2 1 (.slice (some ⟨g4, 0, none⟩) (i + 1) c4) (i + 1) (iC (fun i => (F i).1) (i + 1)) ∧ g3 ≠ g4 ∧ Below B w w4) := ⟨ho1, o4, hne4, hb4⟩
      clear ho1 o4 gr4 hg4 hne4 hb4 HO3 hlt1 hlt2 y0c HE2
      go_wp2_with fail
      go_roundw
      case rel => exact ⟨i + 1, g3, c3, g4, c4, by omega, rfl, rfl, by go_num, HO4⟩
      case measure => simp [intOfI]; omega
    · obtain rfl : i = n := by omega
      have HF : Hid (IAS wr (.slice (some ⟨g1, 0, none⟩) i c1) i (fun i => (F i).2) ∧ IAS wr (.slice (some ⟨g2, 0, none⟩) i c2) i (fun i => (F i).1) ∧ Below w.heap.size w wr) := ⟨ias_own HO.out.1, ias_own HO.out.2.1, by have := HO.out.2.2.2; rw [HBE.out] at this; exact this⟩
      clear HO hB
      go_wp2_with fail
      go_ret2
      exact ⟨⟨_, _, rfl, HF.out.1, HF.out.2.1⟩, HF.out.2.2⟩
end Go.Proofs.Ytmckchklebohmac
