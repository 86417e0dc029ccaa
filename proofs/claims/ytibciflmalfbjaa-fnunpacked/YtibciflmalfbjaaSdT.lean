/-
  The specification's reader of ranges: one bit.
-/
import Derived.Test.YtibciflmalfbjaaSdM
import Derived.Test.YtibciflmalfbjaaRngSp
import Derived.Test.YtibciflmalfbjaaShaMath
namespace Go.Proofs.Ytibciflmalfbjaa
open Go.RowKit
set_option linter.unusedVariables false
set_option linter.unusedSimpArgs false
theorem hidS {p : Prop} (h : p) : Hid p := h
theorem addr0 (g x : Nat) : (⟨g, 0, none⟩ : Addr).add x = ⟨g, x, none⟩ := by unfold Addr.add; split <;> simp_all
/-- the reader in memory -/
structure SDR (w : World) (B g cd wd : Nat) (R : ByteArray) (bad : Bool) (gp c : Nat) (pr : Nat → Nat) : Prop where
  row : w.heap[g]? = some (.cells #[.int .u32 (cd : Int), .int .u32 (wd : Int), .string R, .bool bad, .slice (some ⟨gp, 0, none⟩) 512 c] 45 (0, 0))
  own : w.ownsRow B 2 1 (.slice (some ⟨gp, 0, none⟩) 512 c) 512 ((List.range 512).map fun j => .int .i64 (pr j : Int))
  gB : B ≤ g
def SDAt (w : World) (B g : Nat) (sb : DS × Bool) : Prop := ∃ R gp c, SDR w B g sb.1.code sb.1.width R sb.2 gp c sb.1.probs ∧ bl R = sb.1.rest
theorem SDR.lt {w : World} {B g cd wd gp c : Nat} {R : ByteArray} {bad : Bool} {pr : Nat → Nat} (h : SDR w B g cd wd R bad gp c pr) : g < w.heap.size := (Array.getElem?_eq_some_iff.1 h.row).1
theorem SDR.pn {w : World} {B g cd wd gp c : Nat} {R : ByteArray} {bad : Bool} {pr : Nat → Nat} (h : SDR w B g cd wd R bad gp c pr) : g ≠ gp := fun e => row_apartE (by decide) h.own h.row (by rw [e]; rfl)
theorem SDR.prow {w : World} {B g cd wd gp c : Nat} {R : ByteArray} {bad : Bool} {pr : Nat → Nat} (h : SDR w B g cd wd R bad gp c pr) : B ≤ gp ∧ ∃ cur, w.heap[gp]? = some (.cells cur 2 (0, 0)) := by
  obtain ⟨_, ⟨h0, _⟩ | ⟨g', cap, cur, h1, h2, h3, _⟩⟩ := h.own
  · cases h0
  · cases h1; exact ⟨h2, cur, h3⟩
theorem SDR.same {w w' : World} {B g cd wd gp c : Nat} {R : ByteArray} {bad : Bool} {pr : Nat → Nat} (h : SDR w B g cd wd R bad gp c pr) (h1 : w'.heap[g]? = w.heap[g]?) (h2 : w'.heap[gp]? = w.heap[gp]?) : SDR w' B g cd wd R bad gp c pr := by
  refine ⟨h1.trans h.row, ?_, h.gB⟩
  obtain ⟨hl, ⟨h0, _⟩ | ⟨g', cap, cur, q1, q2, q3, q4⟩⟩ := h.own
  · cases h0
  · cases q1; exact ⟨hl, Or.inr ⟨gp, c, cur, rfl, q2, h2.trans q3, q4⟩⟩
theorem SDR.setC {w : World} {B g cd wd gp c : Nat} {R : ByteArray} {bad : Bool} {pr : Nat → Nat} (h : SDR w B g cd wd R bad gp c pr) (n : Nat) : SDR (w.setCell ⟨g, 0, none⟩ (.int .u32 (n : Int))) B g n wd R bad gp c pr :=
  ⟨heap_setCell_same _ _ _ _ _ _ h.row, h.own.kept (grownBy_setC _ g 0 _) (Or.inr (fun e => row_apartE (by decide) h.own h.row e.symm)), h.gB⟩
theorem SDR.setW {w : World} {B g cd wd gp c : Nat} {R : ByteArray} {bad : Bool} {pr : Nat → Nat} (h : SDR w B g cd wd R bad gp c pr) (n : Nat) : SDR (w.setCell ⟨g, 1, none⟩ (.int .u32 (n : Int))) B g cd n R bad gp c pr :=
  ⟨heap_setCell_same _ _ _ _ _ _ h.row, h.own.kept (grownBy_setC _ g 1 _) (Or.inr (fun e => row_apartE (by decide) h.own h.row e.symm)), h.gB⟩
theorem SDR.setR {w : World} {B g cd wd gp c : Nat} {R : ByteArray} {bad : Bool} {pr : Nat → Nat} (h : SDR w B g cd wd R bad gp c pr) (Q : ByteArray) : SDR (w.setCell ⟨g, 2, none⟩ (.string Q)) B g cd wd Q bad gp c pr :=
  ⟨heap_setCell_same _ _ _ _ _ _ h.row, h.own.kept (grownBy_setC _ g 2 _) (Or.inr (fun e => row_apartE (by decide) h.own h.row e.symm)), h.gB⟩
theorem SDR.setB {w : World} {B g cd wd gp c : Nat} {R : ByteArray} {bad : Bool} {pr : Nat → Nat} (h : SDR w B g cd wd R bad gp c pr) (b : Bool) : SDR (w.setCell ⟨g, 3, none⟩ (.bool b)) B g cd wd R b gp c pr :=
  ⟨heap_setCell_same _ _ _ _ _ _ h.row, h.own.kept (grownBy_setC _ g 3 _) (Or.inr (fun e => row_apartE (by decide) h.own h.row e.symm)), h.gB⟩
theorem SDR.mv {w : World} {B g cd wd gp c : Nat} {R : ByteArray} {bad : Bool} {pr : Nat → Nat} (h : SDR w B g cd wd R bad gp c pr) (x n : Nat) : SDR (w.setCell ⟨gp, x, none⟩ (.int .i64 (n : Int))) B g cd wd R bad gp c (fun j => if j = x then n else pr j) := by
  refine ⟨(heap_setCell_other _ _ _ _ h.pn).trans h.row, ?_, h.gB⟩
  have h4 := own_write (k := x) (u := .int .i64 (n : Int)) h.own
  rw [range_set] at h4
  have e : (fun j => if j = x then Value.int .i64 (n : Int) else .int .i64 (pr j : Int)) = fun j => Value.int .i64 (((if j = x then n else pr j) : Nat) : Int) := by
    funext j; split <;> rfl
  rw [e] at h4
  exact h4
theorem SDR.drew {w : World} {B g cd wd gp c : Nat} {R : ByteArray} {bad : Bool} {pr : Nat → Nat} (h : SDR w B g cd wd R bad gp c pr) : SDR w.drew B g cd wd R bad gp c pr := ⟨h.row, h.own, h.gB⟩
/-- what the reader leaves as it is -/
structure FRS (w W : World) (B g : Nat) : Prop where
  below : Below B w W
  keep : ∀ (k : Nat) (cs : Array Value) (t : TypeId) (m : Nat × Nat), w.heap[k]? = some (.cells cs t m) → k ≠ g → t ≠ 2 → W.heap[k]? = some (.cells cs t m)
theorem FRS.refl (w : World) (B g : Nat) : FRS w w B g := ⟨Below.refl _ _, fun _ _ _ _ h _ _ => h⟩
theorem FRS.trans {a b c : World} {B g : Nat} (h : FRS a b B g) (k : FRS b c B g) : FRS a c B g := ⟨h.below.trans k.below, fun i cs t m q1 q2 q3 => k.keep i cs t m (h.keep i cs t m q1 q2 q3) q2 q3⟩
theorem FRS.drew {w W : World} {B g : Nat} (h : FRS w W B g) : FRS w W.drew B g := ⟨h.below.drew, h.keep⟩
theorem FRS.set {w W : World} {B g : Nat} (h : FRS w W B g) (hg : B ≤ g) (k : Nat) (u : Value) : FRS w (W.setCell ⟨g, k, none⟩ u) B g :=
  ⟨h.below.setCell (p := ⟨g, k, none⟩) hg _, fun i cs t m q1 q2 q3 => (heap_setCell_other _ _ _ _ q2).trans (h.keep i cs t m q1 q2 q3)⟩
theorem FRS.setI {w W : World} {B g gp : Nat} (h : FRS w W B g) (hp : B ≤ gp) {cs0 : Array Value} {m0 : Nat × Nat} (hg : W.heap[gp]? = some (.cells cs0 2 m0)) (k : Nat) (u : Value) : FRS w (W.setCell ⟨gp, k, none⟩ u) B g :=
  ⟨h.below.setCell (p := ⟨gp, k, none⟩) hp _, fun i cs t m q1 q2 q3 => by
    have q4 := h.keep i cs t m q1 q2 q3
    by_cases e : i = gp
    · subst e; rw [hg] at q4; injection q4 with q4; injection q4 with _ q5 _; exact absurd q5.symm q3
    · rw [heap_setCell_other _ _ _ _ (by show i ≠ gp; exact e)]; exact q4⟩
def restS (g : Nat) (w : World) : Nat := match w.cell? ⟨g, 2, none⟩ with | some (.string r) => r.size | _ => 0
theorem restS_eq {w : World} {g : Nat} {r : ByteArray} (h : w.cell? ⟨g, 2, none⟩ = some (.string r)) : restS g w = r.size := by unfold restS; rw [h]
theorem bound_wordsD {s : DS} (hs : s.Fine) (x : Nat) : ∃ q p m : Nat, q = s.width / 2048 ∧ p = s.probs x ∧ m = s.bd x ∧ IntKind.u32.wrap (p : Int) = (p : Int) ∧ IntKind.u32.wrap ((q : Int) * (p : Int)) = (m : Int) ∧ (s.width : Int) / 2048 = (q : Int) ∧ m < 4294967296 := by
  have hw := hs.w
  have hp := hs.p x
  refine ⟨_, _, _, rfl, rfl, rfl, by rw [IntKind.wrap_u32]; omega, ?_, by omega, ?_⟩
  · have hm : s.width / 2048 * s.probs x ≤ 2097151 * 2047 := Nat.mul_le_mul (by omega) hp.2
    have e : ((s.width / 2048 : Nat) : Int) * (s.probs x : Int) = ((s.width / 2048 * s.probs x : Nat) : Int) := by simp
    rw [e, IntKind.wrap_u32]
    unfold DS.bd
    omega
  · have hm : s.width / 2048 * s.probs x ≤ 2097151 * 2047 := Nat.mul_le_mul (by omega) hp.2
    unfold DS.bd
    omega
set_option maxRecDepth 100000 in
set_option maxHeartbeats 4000000 in
theorem sdtake_any {w : World} {B g x : Nat} {sb : DS × Bool} (hs : sb.1.Fine) (hD : SDAt w B g sb) (hx : x < 512) :
    Calls Try.prog 23 #[.pointer (some ⟨g, 0, none⟩), .int .i64 (x : Int)] w fun e w' => e = .returned (.int .i64 ((stell sb x : Nat) : Int)) ∧ SDAt w' B g (sgo sb x) ∧ FRS w w' B g := by
  obtain ⟨s, bad⟩ := sb
  obtain ⟨R, gp, c, hR, hr⟩ := hD
  simp only at hs hR hr
  have HR := hidS hR
  have k3 : w.cell? ⟨g, 3, none⟩ = some (.bool bad) := cell_of_row _ _ _ _ _ _ hR.row
  cases bad with
  | true =>
    have HF : Hid (SDAt w B g (sgo (s, true) x) ∧ FRS w w B g) := by
      have e : sgo (s, true) x = (s, true) := by unfold sgo; rw [if_pos rfl]
      rw [e]
      exact ⟨⟨R, gp, c, hR, hr⟩, FRS.refl _ _ _⟩
    have e0 : stell (s, true) x = 0 := by unfold stell; rw [if_pos rfl]
    rw [e0]
    clear hR hr hs
    go_enter Try.func23, Try.ntmps23
    go_wp2_with fail
    go_ret
    exact ⟨rfl, HF.out⟩
  | false =>
    obtain ⟨q, p, m, hq, hpp, hm, f1, f2, f3, f4⟩ := bound_wordsD hs x
    have hble := DS.bd_le hs x
    rw [← hm] at hble
    have hw2 := hs.w
    have hc2 := hs.c
    have hpr := hs.p x
    rw [← hpp] at hpr
    obtain ⟨N, hN⟩ : ∃ N, N = snx s x := ⟨_, rfl⟩
    have HGO : Hid (∀ w' R' b, SDR w' B g N.2.2.1 N.2.1 R' b gp c (s.pr x) → b = !N.1 → bl R' = N.2.2.2 → FRS w w' B g → SDAt w' B g (sgo (s, false) x) ∧ FRS w w' B g) := fun w' R' b h1 hb h2 h3 => by
      have e : sgo (s, false) x = (⟨N.2.1, N.2.2.1, s.pr x, N.2.2.2⟩, !N.1) := by unfold sgo; rw [if_neg (by simp), hN]
      rw [e]
      subst hb
      exact ⟨⟨R', gp, c, h1, h2⟩, h3⟩
    have HTN : Hid (N.1 = false → stell (s, false) x = 0) := fun h => by unfold stell; rw [if_neg (by simp), ← hN, if_neg (by rw [h]; decide)]
    have HTY : Hid (N.1 = true → stell (s, false) x = s.bit x) := fun h => by unfold stell; rw [if_neg (by simp), ← hN, if_pos h]
    have HN0 : Hid (s.code < m → s.bit x = 0 ∧ snrm m s.code (bl R) = N ∧ s.pr x = fun j => if j = x then movP (s.probs x) 0 else s.probs j) := fun h => by
      have hb : s.bit x = 0 := by unfold DS.bit; rw [← hm, if_pos h]
      refine ⟨hb, ?_, ?_⟩
      · rw [hN]; unfold snx DS.w1 DS.c1; rw [← hm, if_pos h, if_pos h, hr]
      · funext j; unfold DS.pr; rw [hb]
    have HN1 : Hid (¬ s.code < m → s.bit x = 1 ∧ snrm (s.width - m) (s.code - m) (bl R) = N ∧ s.pr x = fun j => if j = x then movP (s.probs x) 1 else s.probs j) := fun h => by
      have hb : s.bit x = 1 := by unfold DS.bit; rw [← hm, if_neg h]
      refine ⟨hb, ?_, ?_⟩
      · rw [hN]; unfold snx DS.w1 DS.c1; rw [← hm, if_neg h, if_neg h, hr]
      · funext j; unfold DS.pr; rw [hb]
    rw [← hpp] at HN0 HN1
    generalize stell (s, false) x = tl at HTN HTY ⊢
    generalize s.bit x = bt at HTY HN0 HN1
    generalize s.pr x = pr' at HGO HN0 HN1
    generalize sgo (s, false) x = sg at HGO ⊢
    have HPX : Hid (1 ≤ p ∧ p ≤ 2047 ∧ p = s.probs x) := ⟨hpr.1, hpr.2, hpp⟩
    obtain ⟨wd, cd, pr, rs⟩ := s
    simp only at hR hw2 hc2 hble HN0 HN1 HPX HR f3
    have HXX : Hid (x < 512) := hx
    have hxI : (x : Int) < 512 := by omega
    have k0 : w.cell? ⟨g, 0, none⟩ = some (.int .u32 (cd : Int)) := cell_of_row _ _ _ _ _ _ hR.row
    have k1 : w.cell? ⟨g, 1, none⟩ = some (.int .u32 (wd : Int)) := cell_of_row _ _ _ _ _ _ hR.row
    have k4 : w.cell? ⟨g, 4, none⟩ = some (.slice (some ⟨gp, 0, none⟩) 512 c) := cell_of_row _ _ _ _ _ _ hR.row
    have kp : w.cell? ⟨gp, x, none⟩ = some (.int .i64 (p : Int)) := by
      have h := hR.own.cells (g := gp) rfl x (.int .i64 (p : Int)) (by rw [List.getElem?_map, List.getElem?_range hx, HPX.out.2.2]; rfl)
      rw [addr0] at h
      exact h
    have z0 := frozen_of_row w g 0 _ _ hR.row
    have z1 := frozen_of_row w g 1 _ _ hR.row
    clear hR hr hN hq hpp hm hs hpr
    by_cases hlt : cd < m
    · have hltI : (cd : Int) < (m : Int) := by omega
      obtain ⟨W, hW⟩ : ∃ W, W = w.setCell ⟨g, 1, none⟩ (.int .u32 (m : Int)) := ⟨_, rfl⟩
      have hR1 : SDR W B g cd m R false gp c pr := by rw [hW]; exact HR.out.setW m
      have hF1 : FRS w W B g := by rw [hW]; exact (FRS.refl w B g).set HR.out.gB 1 _
      have HR1 := hidS hR1
      have HF1 := hidS hF1
      clear hR1 hF1
      go_enter Try.func23, Try.ntmps23
      go_wp2_with fail
      rw [← hW]
      clear hW k0 k1 k3 k4 kp z0 z1
      obtain ⟨n, hn⟩ : ∃ n, n = movP p 0 := ⟨_, rfl⟩
      have HNN : Hid (n = movP p 0) := hn
      have HMV : Hid (∀ w, Calls Try.prog 46 #[.int .i64 (p : Int), .int .i64 0] w fun e w' => e = .returned (.int .i64 (n : Int)) ∧ w' = w) := fun w => by
        have h1 := HPX.out
        have h2 := smoved_in (p : Int) 0 w (by omega) (by omega) (Or.inl rfl)
        have h3 : movI (p : Int) 0 = (n : Int) := by rw [hn]; unfold movP; rw [mov_zero (by omega) (by omega), if_pos rfl]; omega
        rw [h3] at h2; exact h2
      clear hn
      obtain ⟨S, hSS⟩ : ∃ S : World → Prop, S = fun w' => w'.cell? ⟨g, 4, none⟩ = some (.slice (some ⟨gp, 0, none⟩) 512 c) := ⟨_, rfl⟩
      have hSd : S W.drew := by rw [hSS]; exact cell_of_row W.drew _ _ _ _ _ HR1.out.row
      have HX : Hid (∀ w', S w' → w'.cell? ⟨g, 4, none⟩ = some (.slice (some ⟨gp, 0, none⟩) 512 c)) := fun w' h => by rw [hSS] at h; exact h
      have HSS : Hid (S = fun w' => w'.cell? ⟨g, 4, none⟩ = some (.slice (some ⟨gp, 0, none⟩) 512 c)) := hSS
      clear hSS
      refine wp_region_held (S := S) (by kernel_rfl) ?_
      change wpAnyH _ _ _ _ _ _ _ _ (World.drew _)
      refine wpAnyH_take (i := 0) (v := .pointer (some ⟨g, 0, none⟩)) rfl (by kernel_rfl) (by kernel_rfl) (by kernel_rfl) (fun _ _ _ h => h) (Or.inl ⟨by rfl, by intro w' hS'; go_simp <;> (first | omega | (rw [IntKind.wrap_i64]; omega) | (rw [IntKind.wrap_u64]; omega) | (rw [IntKind.wrap_u32]; omega) | (rw [Int.tmod_eq_emod_of_nonneg (by omega)]))⟩) hSd ?_
      (try simp only [List.getElem_toArray, List.getElem_cons_succ, List.getElem_cons_zero, Act.put, List.setIfInBounds_toArray, List.set_cons_zero, List.set_cons_succ])
      refine wpAnyH_take (i := 1) (v := .pointer (some ⟨g, 0, none⟩)) rfl (by kernel_rfl) (by kernel_rfl) (by kernel_rfl) (fun _ _ _ h => h) (Or.inl ⟨by rfl, by intro w' hS'; go_simp <;> (first | omega | (rw [IntKind.wrap_i64]; omega) | (rw [IntKind.wrap_u64]; omega) | (rw [IntKind.wrap_u32]; omega) | (rw [Int.tmod_eq_emod_of_nonneg (by omega)]))⟩) hSd ?_
      (try simp only [List.getElem_toArray, List.getElem_cons_succ, List.getElem_cons_zero, Act.put, List.setIfInBounds_toArray, List.set_cons_zero, List.set_cons_succ])
      refine wpAnyH_take (i := 2) (v := .pointer (some ⟨g, 4, none⟩)) rfl (by kernel_rfl) (by kernel_rfl) (by kernel_rfl) (fun _ _ _ h => h) (Or.inl ⟨by rfl, by intro w' hS'; go_simp <;> (first | omega | (rw [IntKind.wrap_i64]; omega) | (rw [IntKind.wrap_u64]; omega) | (rw [IntKind.wrap_u32]; omega) | (rw [Int.tmod_eq_emod_of_nonneg (by omega)]))⟩) hSd ?_
      (try simp only [List.getElem_toArray, List.getElem_cons_succ, List.getElem_cons_zero, Act.put, List.setIfInBounds_toArray, List.set_cons_zero, List.set_cons_succ])
      refine wpAnyH_take (i := 3) (v := .slice (some ⟨gp, 0, none⟩) 512 c) rfl (by kernel_rfl) (by kernel_rfl) (by kernel_rfl) (fun _ _ _ h => h) (Or.inl ⟨by rfl, by intro w' hS'; have k5 := HX.out w' hS'; go_simp <;> (first | omega | (rw [IntKind.wrap_i64]; omega) | (rw [IntKind.wrap_u64]; omega) | (rw [IntKind.wrap_u32]; omega) | (rw [Int.tmod_eq_emod_of_nonneg (by omega)]))⟩) hSd ?_
      (try simp only [List.getElem_toArray, List.getElem_cons_succ, List.getElem_cons_zero, Act.put, List.setIfInBounds_toArray, List.set_cons_zero, List.set_cons_succ])
      refine wpAnyH_take (i := 4) (v := .int .i64 (x : Int)) rfl (by kernel_rfl) (by kernel_rfl) (by kernel_rfl) (fun _ _ _ h => h) (Or.inl ⟨by rfl, by intro w' hS'; go_simp <;> (first | omega | (rw [IntKind.wrap_i64]; omega) | (rw [IntKind.wrap_u64]; omega) | (rw [IntKind.wrap_u32]; omega) | (rw [Int.tmod_eq_emod_of_nonneg (by omega)]))⟩) hSd ?_
      (try simp only [List.getElem_toArray, List.getElem_cons_succ, List.getElem_cons_zero, Act.put, List.setIfInBounds_toArray, List.set_cons_zero, List.set_cons_succ])
      refine wpAnyH_take (i := 5) (v := .int .i64 (p : Int)) rfl (by kernel_rfl) (by kernel_rfl) (by kernel_rfl) (fun _ _ _ h => h) (Or.inl ⟨by rfl, by intro w' hS'; go_simp <;> (first | omega | (rw [IntKind.wrap_i64]; omega) | (rw [IntKind.wrap_u64]; omega) | (rw [IntKind.wrap_u32]; omega) | (rw [Int.tmod_eq_emod_of_nonneg (by omega)]))⟩) hSd ?_
      (try simp only [List.getElem_toArray, List.getElem_cons_succ, List.getElem_cons_zero, Act.put, List.setIfInBounds_toArray, List.set_cons_zero, List.set_cons_succ])
      refine wpAnyH_take (i := 6) (v := .int .i64 0) rfl (by kernel_rfl) (by kernel_rfl) (by kernel_rfl) (fun _ _ _ h => h) (Or.inl ⟨by rfl, by intro w' hS'; go_simp <;> (first | omega | (rw [IntKind.wrap_i64]; omega) | (rw [IntKind.wrap_u64]; omega) | (rw [IntKind.wrap_u32]; omega) | (rw [Int.tmod_eq_emod_of_nonneg (by omega)]))⟩) hSd ?_
      (try simp only [List.getElem_toArray, List.getElem_cons_succ, List.getElem_cons_zero, Act.put, List.setIfInBounds_toArray, List.set_cons_zero, List.set_cons_succ])
      refine held_stepS (i := 7) (by kernel_rfl) rfl (by rfl) ?_
      go_simp
      refine (HMV.out W.drew).mono ?_
      rintro e w5 ⟨rfl, rfl⟩
      refine ⟨hSd, ?_⟩
      (try simp only [List.getElem_toArray, List.getElem_cons_succ, List.getElem_cons_zero, Act.put, List.setIfInBounds_toArray, List.set_cons_zero, List.set_cons_succ])
      refine wpAnyH_take (i := 8) (v := .pointer (some ⟨gp, x, none⟩)) rfl (by kernel_rfl) (by kernel_rfl) (by kernel_rfl) (fun _ _ _ h => h) (Or.inl ⟨by rfl, by intro w' hS'; go_simp <;> (first | omega | (rw [IntKind.wrap_i64]; omega) | (rw [IntKind.wrap_u64]; omega) | (rw [IntKind.wrap_u32]; omega) | (rw [Int.tmod_eq_emod_of_nonneg (by omega)]))⟩) hSd ?_
      (try simp only [List.getElem_toArray, List.getElem_cons_succ, List.getElem_cons_zero, Act.put, List.setIfInBounds_toArray, List.set_cons_zero, List.set_cons_succ])
      obtain ⟨hpB, cur, hgr⟩ := HR1.out.prow
      have c5 : W.drew.cell? ⟨gp, x, none⟩ = some (.int .i64 (p : Int)) := by
        have h := HR1.out.own.cells (g := gp) rfl x (.int .i64 (p : Int)) (by rw [List.getElem?_map, List.getElem?_range HXX.out, HPX.out.2.2]; rfl)
        rw [addr0] at h
        exact h
      have z5 := frozen_of_row W.drew gp x _ _ hgr
      obtain ⟨hbt, hnr, hprr⟩ := HN0.out (by first | exact hlt | omega)
      have hR5 : SDR (W.setCell ⟨gp, x, none⟩ (.int .i64 (n : Int))).drew B g cd m R false gp c pr' := by
        have h := (HR1.out.mv x n).drew
        rw [hprr, ← HNN.out]; exact h
      have hF5 : FRS w (W.setCell ⟨gp, x, none⟩ (.int .i64 (n : Int))).drew B g := (HF1.out.setI hpB hgr x _).drew
      have HR5 := hidS hR5
      have HF5 := hidS hF5
      have HBT : Hid (bt = 0) := hbt
      have HNR : Hid (snrm m cd (bl R) = N) := hnr
      have HBD : Hid (cd < 4294967296 ∧ m < 4294967296) := by exact ⟨by omega, by omega⟩
      clear hgr hR5 hF5 hbt hnr hprr HN0 HN1
      refine held_stepS (i := 9) (by kernel_rfl) rfl (by rfl) ?_
      go_simp
      refine ⟨by rw [HSS.out]; exact cell_of_row _ _ _ _ _ _ HR5.out.row, ?_⟩
      (try simp only [List.getElem_toArray, List.getElem_cons_succ, List.getElem_cons_zero, Act.put, List.setIfInBounds_toArray, List.set_cons_zero, List.set_cons_succ])
      refine wpAnyH_done (by kernel_rfl) ?_ _
      clear c5 z5 hSd HX HSS HMV HR1 HF1 hlt hltI f1 f2 f3 f4 hble hw2 hc2
      go_wp2_with fail
      go_loopw [] (fun wr => ∃ (cd2 wd2 : Nat) (R2 : ByteArray), Hid (SDR wr B g cd2 wd2 R2 false gp c pr') ∧ wd2 < 4294967296 ∧ cd2 < 4294967296 ∧ Hid (snrm wd2 cd2 (bl R2) = N) ∧ Hid (FRS w wr B g)) (fun wr => restS g wr)
      case atStart => exact ⟨cd, m, R, HR5, HBD.out.2, HBD.out.1, HNR, HF5⟩
      case round =>
        clear HR5 HF5 HNR HBD
        obtain ⟨cd2, wd2, R2, HE, hw2, hc2, HNR, HF⟩ := hrel
        have y1 : wr.cell? ⟨g, 1, none⟩ = some (.int .u32 (wd2 : Int)) := cell_of_row _ _ _ _ _ _ HE.out.row
        have y2 : wr.cell? ⟨g, 2, none⟩ = some (.string R2) := cell_of_row _ _ _ _ _ _ HE.out.row
        have y3 : wr.cell? ⟨g, 3, none⟩ = some (.bool false) := cell_of_row _ _ _ _ _ _ HE.out.row
        have HMW : Hid (restS g wr = R2.size) := restS_eq y2
        by_cases hwl : wd2 < 16777216
        · have hwlI : (wd2 : Int) < 16777216 := by omega
          by_cases hr0 : R2.size = 0
          · have hte : R2.toList.isEmpty = true := by rw [Lib.toList_data]; have h := Lib.size_eq R2; rw [hr0] at h; rw [List.length_eq_zero_iff.1 h.symm]; rfl
            have hn := HNR.out
            rw [bl_nil hr0, snrm_end hwl] at hn
            obtain rfl := HTN.out (by rw [← hn])
            have z3 := frozen_of_row wr g 3 _ _ HE.out.row
            have HFIN : Hid (SDAt (wr.setCell ⟨g, 3, none⟩ (.bool true)) B g sg ∧ FRS w (wr.setCell ⟨g, 3, none⟩ (.bool true)) B g) := HGO.out _ R2 true (by rw [← hn]; exact HE.out.setB true) (by rw [← hn]; rfl) (by rw [← hn, bl_nil hr0]) (HF.out.set HE.out.gB 3 _)
            clear hn HGO HNR HE HF HTN HTY HBT hr0
            go_wp2_with fail
            go_ret
            exact ⟨rfl, HFIN.out⟩
          · have hr1 : 0 < R2.size := by omega
            have hr1I : (0 : Int) < (R2.size : Int) := by omega
            have hr2I : (1 : Int) ≤ (R2.size : Int) := by omega
            have hte : R2.toList.isEmpty = false := by
              rw [Lib.toList_data]
              cases h : R2.data.toList with
              | nil =>
                have h2 : R2.size = 0 := by rw [Lib.size_eq, h]; rfl
                omega
              | cons _ _ => rfl
            obtain ⟨b1, hb1⟩ : ∃ b1 : Nat, b1 = R2[0].toNat := ⟨_, rfl⟩
            have hb256 : b1 < 256 := by rw [hb1]; exact UInt8.toNat_lt _
            have hb1I : ((R2[0].toNat : Nat) : Int) = (b1 : Int) := by rw [hb1]
            obtain ⟨wd3, hwd3⟩ : ∃ wd3, wd3 = wd2 * 256 := ⟨_, rfl⟩
            obtain ⟨cc, hcc⟩ : ∃ cc, cc = cd2 * 256 % 4294967296 := ⟨_, rfl⟩
            obtain ⟨cd3, hcd3⟩ : ∃ cd3, cd3 = (cd2 * 256 + b1) % 4294967296 := ⟨_, rfl⟩
            have hn := HNR.out
            rw [bl_cons hr1, snrm_step hwl, ← hb1, ← hcd3, ← hwd3] at hn
            have HNR2 : Hid (snrm wd3 cd3 (bl (R2.extract 1 R2.size)) = N) := hn
            have f1 : IntKind.u32.wrap ((wd2 : Int) * 256) = (wd3 : Int) := by rw [IntKind.wrap_u32]; omega
            have f2 : IntKind.u32.wrap ((cd2 : Int) * 256) = (cc : Int) := by rw [IntKind.wrap_u32]; omega
            have f3 : bits .or .u32 (cc : Int) (b1 : Int) = (cd3 : Int) := by
              have h := or_byte (cd2 % 16777216) b1 (by omega) hb256
              have e1 : ((cd2 % 16777216 : Nat) : Int) * 256 = (cc : Int) := by omega
              rw [e1] at h
              rw [h]; omega
            have f4 : IntKind.u32.wrap (b1 : Int) = (b1 : Int) := by rw [IntKind.wrap_u32]; omega
            have hw3b : wd3 < 4294967296 := by omega
            have hc3b : cd3 < 4294967296 := by omega
            have z1 := frozen_of_row wr g 1 _ _ HE.out.row
            obtain ⟨W2, hW2⟩ : ∃ W2, W2 = wr.setCell ⟨g, 1, none⟩ (.int .u32 (wd3 : Int)) := ⟨_, rfl⟩
            have hE2 : SDR W2 B g cd2 wd3 R2 false gp c pr' := by rw [hW2]; exact HE.out.setW wd3
            have hF2 : FRS w W2 B g := by rw [hW2]; exact HF.out.set HE.out.gB 1 _
            have HE2 := hidS hE2
            have HF2 := hidS hF2
            clear hE2 hF2 hn HNR HE HF hwd3 hcc hcd3 hb1 hr0 hwl
            go_wp2_with fail
            rw [← hW2]
            clear hW2 y1 y2 y3 z1
            have v0 : W2.cell? ⟨g, 0, none⟩ = some (.int .u32 (cd2 : Int)) := cell_of_row _ _ _ _ _ _ HE2.out.row
            have v2 : W2.cell? ⟨g, 2, none⟩ = some (.string R2) := cell_of_row _ _ _ _ _ _ HE2.out.row
            have w0 := frozen_of_row W2 g 0 _ _ HE2.out.row
            go_region
            obtain ⟨W3, hW3⟩ : ∃ W3, W3 = (W2.setCell ⟨g, 0, none⟩ (.int .u32 (cd3 : Int))).drew := ⟨_, rfl⟩
            have hE3 : SDR W3 B g cd3 wd3 R2 false gp c pr' := by rw [hW3]; exact (HE2.out.setC cd3).drew
            have hF3 : FRS w W3 B g := by rw [hW3]; exact (HF2.out.set HE2.out.gB 0 _).drew
            have HE3 := hidS hE3
            have HF3 := hidS hF3
            rw [← hW3]
            clear hE3 hF3 hW3 HE2 HF2 v0 v2 w0 f1 f2 f3 f4 hte hb1I
            have u2 : W3.cell? ⟨g, 2, none⟩ = some (.string R2) := cell_of_row _ _ _ _ _ _ HE3.out.row
            have q2 := frozen_of_row W3 g 2 _ _ HE3.out.row
            go_wp2_with fail
            go_roundw
            case rel => exact ⟨cd3, wd3, R2.extract 1 R2.size, HE3.out.setR _, hw3b, hc3b, HNR2, HF3.out.set HE3.out.gB 2 _⟩
            case measure =>
              rw [HMW.out]
              have h2 := HE3.out.setR (R2.extract 1 R2.size)
              have h3 := restS_eq (cell_of_row _ g 2 _ _ _ h2.row)
              rw [h3, ByteArray.size_extract]
              omega
        · have hn := HNR.out
          rw [snrm_done (by omega)] at hn
          obtain rfl := HTY.out (by rw [← hn])
          have hwlI : ¬ (wd2 : Int) < 16777216 := by omega
          have HFIN : Hid (SDAt wr B g sg ∧ FRS w wr B g) := HGO.out wr R2 false (by rw [← hn]; exact HE.out) (by rw [← hn]; rfl) (by rw [← hn]) HF.out
          have HBT2 := HBT.out
          subst HBT2
          clear hn HGO HNR HE HF HTN HTY hwl
          go_wp2_with fail
          go_ret
          exact ⟨rfl, HFIN.out⟩
    · have hltI : ¬ (cd : Int) < (m : Int) := by omega
      obtain ⟨cd1, hcd1⟩ : ∃ cd1, cd1 = cd - m := ⟨_, rfl⟩
      obtain ⟨wd1, hwd1⟩ : ∃ wd1, wd1 = wd - m := ⟨_, rfl⟩
      have g1 : IntKind.u32.wrap ((cd : Int) - (m : Int)) = (cd1 : Int) := by rw [IntKind.wrap_u32]; omega
      have g2 : IntKind.u32.wrap ((wd : Int) - (m : Int)) = (wd1 : Int) := by rw [IntKind.wrap_u32]; omega
      obtain ⟨W, hW⟩ : ∃ W, W = (w.setCell ⟨g, 0, none⟩ (.int .u32 (cd1 : Int))).setCell ⟨g, 1, none⟩ (.int .u32 (wd1 : Int)) := ⟨_, rfl⟩
      have hR1 : SDR W B g cd1 wd1 R false gp c pr := by rw [hW]; exact (HR.out.setC cd1).setW wd1
      have hF1 : FRS w W B g := by rw [hW]; exact ((FRS.refl w B g).set HR.out.gB 0 _).set HR.out.gB 1 _
      have HR1 := hidS hR1
      have HF1 := hidS hF1
      have HCW : Hid (cd1 = cd - m ∧ wd1 = wd - m) := ⟨hcd1, hwd1⟩
      clear hR1 hF1 hcd1 hwd1
      go_enter Try.func23, Try.ntmps23
      go_wp2_with fail
      rw [← hW]
      clear hW k0 k1 k3 k4 kp z0 z1 g1 g2
      obtain ⟨n, hn⟩ : ∃ n, n = movP p 1 := ⟨_, rfl⟩
      have HNN : Hid (n = movP p 1) := hn
      have HMV : Hid (∀ w, Calls Try.prog 46 #[.int .i64 (p : Int), .int .i64 1] w fun e w' => e = .returned (.int .i64 (n : Int)) ∧ w' = w) := fun w => by
        have h1 := HPX.out
        have h2 := smoved_in (p : Int) 1 w (by omega) (by omega) (Or.inr rfl)
        have h3 : movI (p : Int) 1 = (n : Int) := by rw [hn]; unfold movP; rw [mov_one (by omega) (by omega), if_neg (by decide)]; omega
        rw [h3] at h2; exact h2
      clear hn
      obtain ⟨S, hSS⟩ : ∃ S : World → Prop, S = fun w' => w'.cell? ⟨g, 4, none⟩ = some (.slice (some ⟨gp, 0, none⟩) 512 c) := ⟨_, rfl⟩
      have hSd : S W.drew := by rw [hSS]; exact cell_of_row W.drew _ _ _ _ _ HR1.out.row
      have HX : Hid (∀ w', S w' → w'.cell? ⟨g, 4, none⟩ = some (.slice (some ⟨gp, 0, none⟩) 512 c)) := fun w' h => by rw [hSS] at h; exact h
      have HSS : Hid (S = fun w' => w'.cell? ⟨g, 4, none⟩ = some (.slice (some ⟨gp, 0, none⟩) 512 c)) := hSS
      clear hSS
      refine wp_region_held (S := S) (by kernel_rfl) ?_
      change wpAnyH _ _ _ _ _ _ _ _ (World.drew _)
      refine wpAnyH_take (i := 0) (v := .pointer (some ⟨g, 0, none⟩)) rfl (by kernel_rfl) (by kernel_rfl) (by kernel_rfl) (fun _ _ _ h => h) (Or.inl ⟨by rfl, by intro w' hS'; go_simp <;> (first | omega | (rw [IntKind.wrap_i64]; omega) | (rw [IntKind.wrap_u64]; omega) | (rw [IntKind.wrap_u32]; omega) | (rw [Int.tmod_eq_emod_of_nonneg (by omega)]))⟩) hSd ?_
      (try simp only [List.getElem_toArray, List.getElem_cons_succ, List.getElem_cons_zero, Act.put, List.setIfInBounds_toArray, List.set_cons_zero, List.set_cons_succ])
      refine wpAnyH_take (i := 1) (v := .pointer (some ⟨g, 0, none⟩)) rfl (by kernel_rfl) (by kernel_rfl) (by kernel_rfl) (fun _ _ _ h => h) (Or.inl ⟨by rfl, by intro w' hS'; go_simp <;> (first | omega | (rw [IntKind.wrap_i64]; omega) | (rw [IntKind.wrap_u64]; omega) | (rw [IntKind.wrap_u32]; omega) | (rw [Int.tmod_eq_emod_of_nonneg (by omega)]))⟩) hSd ?_
      (try simp only [List.getElem_toArray, List.getElem_cons_succ, List.getElem_cons_zero, Act.put, List.setIfInBounds_toArray, List.set_cons_zero, List.set_cons_succ])
      refine wpAnyH_take (i := 2) (v := .pointer (some ⟨g, 4, none⟩)) rfl (by kernel_rfl) (by kernel_rfl) (by kernel_rfl) (fun _ _ _ h => h) (Or.inl ⟨by rfl, by intro w' hS'; go_simp <;> (first | omega | (rw [IntKind.wrap_i64]; omega) | (rw [IntKind.wrap_u64]; omega) | (rw [IntKind.wrap_u32]; omega) | (rw [Int.tmod_eq_emod_of_nonneg (by omega)]))⟩) hSd ?_
      (try simp only [List.getElem_toArray, List.getElem_cons_succ, List.getElem_cons_zero, Act.put, List.setIfInBounds_toArray, List.set_cons_zero, List.set_cons_succ])
      refine wpAnyH_take (i := 3) (v := .slice (some ⟨gp, 0, none⟩) 512 c) rfl (by kernel_rfl) (by kernel_rfl) (by kernel_rfl) (fun _ _ _ h => h) (Or.inl ⟨by rfl, by intro w' hS'; have k5 := HX.out w' hS'; go_simp <;> (first | omega | (rw [IntKind.wrap_i64]; omega) | (rw [IntKind.wrap_u64]; omega) | (rw [IntKind.wrap_u32]; omega) | (rw [Int.tmod_eq_emod_of_nonneg (by omega)]))⟩) hSd ?_
      (try simp only [List.getElem_toArray, List.getElem_cons_succ, List.getElem_cons_zero, Act.put, List.setIfInBounds_toArray, List.set_cons_zero, List.set_cons_succ])
      refine wpAnyH_take (i := 4) (v := .int .i64 (x : Int)) rfl (by kernel_rfl) (by kernel_rfl) (by kernel_rfl) (fun _ _ _ h => h) (Or.inl ⟨by rfl, by intro w' hS'; go_simp <;> (first | omega | (rw [IntKind.wrap_i64]; omega) | (rw [IntKind.wrap_u64]; omega) | (rw [IntKind.wrap_u32]; omega) | (rw [Int.tmod_eq_emod_of_nonneg (by omega)]))⟩) hSd ?_
      (try simp only [List.getElem_toArray, List.getElem_cons_succ, List.getElem_cons_zero, Act.put, List.setIfInBounds_toArray, List.set_cons_zero, List.set_cons_succ])
      refine wpAnyH_take (i := 5) (v := .int .i64 (p : Int)) rfl (by kernel_rfl) (by kernel_rfl) (by kernel_rfl) (fun _ _ _ h => h) (Or.inl ⟨by rfl, by intro w' hS'; go_simp <;> (first | omega | (rw [IntKind.wrap_i64]; omega) | (rw [IntKind.wrap_u64]; omega) | (rw [IntKind.wrap_u32]; omega) | (rw [Int.tmod_eq_emod_of_nonneg (by omega)]))⟩) hSd ?_
      (try simp only [List.getElem_toArray, List.getElem_cons_succ, List.getElem_cons_zero, Act.put, List.setIfInBounds_toArray, List.set_cons_zero, List.set_cons_succ])
      refine wpAnyH_take (i := 6) (v := .int .i64 1) rfl (by kernel_rfl) (by kernel_rfl) (by kernel_rfl) (fun _ _ _ h => h) (Or.inl ⟨by rfl, by intro w' hS'; go_simp <;> (first | omega | (rw [IntKind.wrap_i64]; omega) | (rw [IntKind.wrap_u64]; omega) | (rw [IntKind.wrap_u32]; omega) | (rw [Int.tmod_eq_emod_of_nonneg (by omega)]))⟩) hSd ?_
      (try simp only [List.getElem_toArray, List.getElem_cons_succ, List.getElem_cons_zero, Act.put, List.setIfInBounds_toArray, List.set_cons_zero, List.set_cons_succ])
      refine held_stepS (i := 7) (by kernel_rfl) rfl (by rfl) ?_
      go_simp
      refine (HMV.out W.drew).mono ?_
      rintro e w5 ⟨rfl, rfl⟩
      refine ⟨hSd, ?_⟩
      (try simp only [List.getElem_toArray, List.getElem_cons_succ, List.getElem_cons_zero, Act.put, List.setIfInBounds_toArray, List.set_cons_zero, List.set_cons_succ])
      refine wpAnyH_take (i := 8) (v := .pointer (some ⟨gp, x, none⟩)) rfl (by kernel_rfl) (by kernel_rfl) (by kernel_rfl) (fun _ _ _ h => h) (Or.inl ⟨by rfl, by intro w' hS'; go_simp <;> (first | omega | (rw [IntKind.wrap_i64]; omega) | (rw [IntKind.wrap_u64]; omega) | (rw [IntKind.wrap_u32]; omega) | (rw [Int.tmod_eq_emod_of_nonneg (by omega)]))⟩) hSd ?_
      (try simp only [List.getElem_toArray, List.getElem_cons_succ, List.getElem_cons_zero, Act.put, List.setIfInBounds_toArray, List.set_cons_zero, List.set_cons_succ])
      obtain ⟨hpB, cur, hgr⟩ := HR1.out.prow
      have c5 : W.drew.cell? ⟨gp, x, none⟩ = some (.int .i64 (p : Int)) := by
        have h := HR1.out.own.cells (g := gp) rfl x (.int .i64 (p : Int)) (by rw [List.getElem?_map, List.getElem?_range HXX.out, HPX.out.2.2]; rfl)
        rw [addr0] at h
        exact h
      have z5 := frozen_of_row W.drew gp x _ _ hgr
      obtain ⟨hbt, hnr, hprr⟩ := HN1.out (by first | exact hlt | omega)
      have hR5 : SDR (W.setCell ⟨gp, x, none⟩ (.int .i64 (n : Int))).drew B g cd1 wd1 R false gp c pr' := by
        have h := (HR1.out.mv x n).drew
        rw [hprr, ← HNN.out]; exact h
      have hF5 : FRS w (W.setCell ⟨gp, x, none⟩ (.int .i64 (n : Int))).drew B g := (HF1.out.setI hpB hgr x _).drew
      have HR5 := hidS hR5
      have HF5 := hidS hF5
      have HBT : Hid (bt = 1) := hbt
      have HNR : Hid (snrm wd1 cd1 (bl R) = N) := by rw [HCW.out.1, HCW.out.2]; exact hnr
      have HBD : Hid (cd1 < 4294967296 ∧ wd1 < 4294967296) := by have := HCW.out; exact ⟨by omega, by omega⟩
      clear hgr hR5 hF5 hbt hnr hprr HN0 HN1
      refine held_stepS (i := 9) (by kernel_rfl) rfl (by rfl) ?_
      go_simp
      refine ⟨by rw [HSS.out]; exact cell_of_row _ _ _ _ _ _ HR5.out.row, ?_⟩
      (try simp only [List.getElem_toArray, List.getElem_cons_succ, List.getElem_cons_zero, Act.put, List.setIfInBounds_toArray, List.set_cons_zero, List.set_cons_succ])
      refine wpAnyH_done (by kernel_rfl) ?_ _
      clear c5 z5 hSd HX HSS HMV HR1 HF1 hlt hltI f1 f2 f3 f4 hble hw2 hc2
      go_wp2_with fail
      go_loopw [] (fun wr => ∃ (cd2 wd2 : Nat) (R2 : ByteArray), Hid (SDR wr B g cd2 wd2 R2 false gp c pr') ∧ wd2 < 4294967296 ∧ cd2 < 4294967296 ∧ Hid (snrm wd2 cd2 (bl R2) = N) ∧ Hid (FRS w wr B g)) (fun wr => restS g wr)
      case atStart => exact ⟨cd1, wd1, R, HR5, HBD.out.2, HBD.out.1, HNR, HF5⟩
      case round =>
        clear HR5 HF5 HNR HBD
        obtain ⟨cd2, wd2, R2, HE, hw2, hc2, HNR, HF⟩ := hrel
        have y1 : wr.cell? ⟨g, 1, none⟩ = some (.int .u32 (wd2 : Int)) := cell_of_row _ _ _ _ _ _ HE.out.row
        have y2 : wr.cell? ⟨g, 2, none⟩ = some (.string R2) := cell_of_row _ _ _ _ _ _ HE.out.row
        have y3 : wr.cell? ⟨g, 3, none⟩ = some (.bool false) := cell_of_row _ _ _ _ _ _ HE.out.row
        have HMW : Hid (restS g wr = R2.size) := restS_eq y2
        by_cases hwl : wd2 < 16777216
        · have hwlI : (wd2 : Int) < 16777216 := by omega
          by_cases hr0 : R2.size = 0
          · have hte : R2.toList.isEmpty = true := by rw [Lib.toList_data]; have h := Lib.size_eq R2; rw [hr0] at h; rw [List.length_eq_zero_iff.1 h.symm]; rfl
            have hn := HNR.out
            rw [bl_nil hr0, snrm_end hwl] at hn
            obtain rfl := HTN.out (by rw [← hn])
            have z3 := frozen_of_row wr g 3 _ _ HE.out.row
            have HFIN : Hid (SDAt (wr.setCell ⟨g, 3, none⟩ (.bool true)) B g sg ∧ FRS w (wr.setCell ⟨g, 3, none⟩ (.bool true)) B g) := HGO.out _ R2 true (by rw [← hn]; exact HE.out.setB true) (by rw [← hn]; rfl) (by rw [← hn, bl_nil hr0]) (HF.out.set HE.out.gB 3 _)
            clear hn HGO HNR HE HF HTN HTY HBT hr0
            go_wp2_with fail
            go_ret
            exact ⟨rfl, HFIN.out⟩
          · have hr1 : 0 < R2.size := by omega
            have hr1I : (0 : Int) < (R2.size : Int) := by omega
            have hr2I : (1 : Int) ≤ (R2.size : Int) := by omega
            have hte : R2.toList.isEmpty = false := by
              rw [Lib.toList_data]
              cases h : R2.data.toList with
              | nil =>
                have h2 : R2.size = 0 := by rw [Lib.size_eq, h]; rfl
                omega
              | cons _ _ => rfl
            obtain ⟨b1, hb1⟩ : ∃ b1 : Nat, b1 = R2[0].toNat := ⟨_, rfl⟩
            have hb256 : b1 < 256 := by rw [hb1]; exact UInt8.toNat_lt _
            have hb1I : ((R2[0].toNat : Nat) : Int) = (b1 : Int) := by rw [hb1]
            obtain ⟨wd3, hwd3⟩ : ∃ wd3, wd3 = wd2 * 256 := ⟨_, rfl⟩
            obtain ⟨cc, hcc⟩ : ∃ cc, cc = cd2 * 256 % 4294967296 := ⟨_, rfl⟩
            obtain ⟨cd3, hcd3⟩ : ∃ cd3, cd3 = (cd2 * 256 + b1) % 4294967296 := ⟨_, rfl⟩
            have hn := HNR.out
            rw [bl_cons hr1, snrm_step hwl, ← hb1, ← hcd3, ← hwd3] at hn
            have HNR2 : Hid (snrm wd3 cd3 (bl (R2.extract 1 R2.size)) = N) := hn
            have f1 : IntKind.u32.wrap ((wd2 : Int) * 256) = (wd3 : Int) := by rw [IntKind.wrap_u32]; omega
            have f2 : IntKind.u32.wrap ((cd2 : Int) * 256) = (cc : Int) := by rw [IntKind.wrap_u32]; omega
            have f3 : bits .or .u32 (cc : Int) (b1 : Int) = (cd3 : Int) := by
              have h := or_byte (cd2 % 16777216) b1 (by omega) hb256
              have e1 : ((cd2 % 16777216 : Nat) : Int) * 256 = (cc : Int) := by omega
              rw [e1] at h
              rw [h]; omega
            have f4 : IntKind.u32.wrap (b1 : Int) = (b1 : Int) := by rw [IntKind.wrap_u32]; omega
            have hw3b : wd3 < 4294967296 := by omega
            have hc3b : cd3 < 4294967296 := by omega
            have z1 := frozen_of_row wr g 1 _ _ HE.out.row
            obtain ⟨W2, hW2⟩ : ∃ W2, W2 = wr.setCell ⟨g, 1, none⟩ (.int .u32 (wd3 : Int)) := ⟨_, rfl⟩
            have hE2 : SDR W2 B g cd2 wd3 R2 false gp c pr' := by rw [hW2]; exact HE.out.setW wd3
            have hF2 : FRS w W2 B g := by rw [hW2]; exact HF.out.set HE.out.gB 1 _
            have HE2 := hidS hE2
            have HF2 := hidS hF2
            clear hE2 hF2 hn HNR HE HF hwd3 hcc hcd3 hb1 hr0 hwl
            go_wp2_with fail
            rw [← hW2]
            clear hW2 y1 y2 y3 z1
            have v0 : W2.cell? ⟨g, 0, none⟩ = some (.int .u32 (cd2 : Int)) := cell_of_row _ _ _ _ _ _ HE2.out.row
            have v2 : W2.cell? ⟨g, 2, none⟩ = some (.string R2) := cell_of_row _ _ _ _ _ _ HE2.out.row
            have w0 := frozen_of_row W2 g 0 _ _ HE2.out.row
            go_region
            obtain ⟨W3, hW3⟩ : ∃ W3, W3 = (W2.setCell ⟨g, 0, none⟩ (.int .u32 (cd3 : Int))).drew := ⟨_, rfl⟩
            have hE3 : SDR W3 B g cd3 wd3 R2 false gp c pr' := by rw [hW3]; exact (HE2.out.setC cd3).drew
            have hF3 : FRS w W3 B g := by rw [hW3]; exact (HF2.out.set HE2.out.gB 0 _).drew
            have HE3 := hidS hE3
            have HF3 := hidS hF3
            rw [← hW3]
            clear hE3 hF3 hW3 HE2 HF2 v0 v2 w0 f1 f2 f3 f4 hte hb1I
            have u2 : W3.cell? ⟨g, 2, none⟩ = some (.string R2) := cell_of_row _ _ _ _ _ _ HE3.out.row
            have q2 := frozen_of_row W3 g 2 _ _ HE3.out.row
            go_wp2_with fail
            go_roundw
            case rel => exact ⟨cd3, wd3, R2.extract 1 R2.size, HE3.out.setR _, hw3b, hc3b, HNR2, HF3.out.set HE3.out.gB 2 _⟩
            case measure =>
              rw [HMW.out]
              have h2 := HE3.out.setR (R2.extract 1 R2.size)
              have h3 := restS_eq (cell_of_row _ g 2 _ _ _ h2.row)
              rw [h3, ByteArray.size_extract]
              omega
        · have hn := HNR.out
          rw [snrm_done (by omega)] at hn
          obtain rfl := HTY.out (by rw [← hn])
          have hwlI : ¬ (wd2 : Int) < 16777216 := by omega
          have HFIN : Hid (SDAt wr B g sg ∧ FRS w wr B g) := HGO.out wr R2 false (by rw [← hn]; exact HE.out) (by rw [← hn]; rfl) (by rw [← hn]) HF.out
          have HBT2 := HBT.out
          subst HBT2
          clear hn HGO HNR HE HF HTN HTY hwl
          go_wp2_with fail
          go_ret
          exact ⟨rfl, HFIN.out⟩
end Go.Proofs.Ytibciflmalfbjaa
