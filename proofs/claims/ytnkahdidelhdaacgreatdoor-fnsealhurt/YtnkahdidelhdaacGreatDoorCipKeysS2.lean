/-
  The table and a key's words, the specification's.
-/
import Derived.Test.YtnkahdidelhdaacGreatDoorCipKeys
import Derived.Test.YtnkahdidelhdaacGreatDoorConv
import Derived.Maps.AppendAt
import Derived.Laws.OwnMore
namespace Go.Proofs.YtnkahdidelhdaacGreatDoor
open Go.RowKit

theorem Tryz.infu : (Tryz.prog.info? 67).map (fun i => (i.zero, i.size, i.bytes)) = some (some (.int .u32 0), 1, 4) := by kernel_rfl
/-- so many words as cells -/
def wCells (f : Nat → Nat) (n : Nat) : List Value := (List.range n).map fun i => Value.int .u32 (f i : Nat)
theorem wCells_len (f : Nat → Nat) (n : Nat) : (wCells f n).length = n := by simp [wCells]
theorem wCells_snoc (f : Nat → Nat) (n : Nat) : wCells f n ++ [Value.int .u32 (f n : Nat)] = wCells f (n + 1) := by simp [wCells, List.range_succ]
theorem wCells_at (f : Nat → Nat) {n j : Nat} (h : j < n) : (wCells f n)[j]? = some (.int .u32 (f j : Nat)) := by
  rw [wCells, List.getElem?_map, List.getElem?_range h]; rfl
theorem one_u {x : Int} {k : IntKind} : ∀ u ∈ [Value.int k x], u.oneCell' = true := by
  intro u hu
  simp at hu
  subst hu
  rfl
/-- what is owned, by its cells -/
theorem owns_form {w : World} {B : Nat} {v : Value} {f : Nat → Nat} {n : Nat} (h : w.ownsRow B 67 1 v n (wCells f n)) (h0 : 0 < n) :
    ∃ g cap : Nat, v = .slice (some ⟨g, 0, none⟩) n cap ∧ B ≤ g ∧ g < w.heap.size ∧ n ≤ cap ∧ ∀ j, j < n → w.cell? ⟨g, j, none⟩ = some (.int .u32 (f j : Nat)) := by
  have hb := h
  obtain ⟨_, ⟨_, h1⟩ | ⟨g, cap, cur, rfl, hbg, hg, hn, _, _, ht⟩⟩ := h
  · omega
  · refine ⟨g, cap, rfl, hbg, (Array.getElem?_eq_some_iff.1 hg).1, hn, fun j hj => ?_⟩
    have := hb.cells (g := g) rfl j _ (wCells_at f hj)
    have ea : (⟨g, 0, none⟩ : Addr).add j = ⟨g, j, none⟩ := by
      unfold Addr.add
      by_cases h0 : j = 0
      · subst h0; simp
      · simp [h0]
    rwa [ea] at this
theorem owns_call {w w' : World} {B : Nat} {v : Value} {n : Nat} {xs : List Value} (h : w.ownsRow B 67 1 v n xs) (hb : Below w.heap.size w w') : w'.ownsRow B 67 1 v n xs := by
  refine h.kept (row := none) ⟨hb.os, hb.tape, hb.output, hb.size, fun k hk _ => hb.block k hk⟩ ?_
  cases hv : v.ownBlock with
  | none => exact Or.inl rfl
  | some g => exact Or.inr (by simp)

set_option maxRecDepth 100000 in
set_option maxHeartbeats 2000000 in
theorem stab_any (w : World) :
    Calls Tryz.prog 37 #[] w fun e w' => (∃ v, e = .returned v ∧ w'.ownsRow w.heap.size 67 1 v 256 (wCells sbox 256)) ∧ Below w.heap.size w w' := by
  obtain ⟨i0, hi, hz0, hz1, hz2⟩ := info_parts Tryz.infu
  go_enter Tryz.func37, Tryz.ntmps37
  go_wp2_with fail
  go_loopw [1, 2] (fun v c wr => ∃ n : Nat, n ≤ 256 ∧ c = .int .u32 (n : Int) ∧ wr.ownsRow w.heap.size 67 1 v n (wCells sbox n) ∧ Below w.heap.size w wr)
    (fun _ c _ => 256 - (cipIntOf c).toNat)
  case atStart => exact ⟨0, by omega, rfl, World.ownsRow_made w #[] 0 (Nat.le_refl _) (by unfold maxLen; omega) rfl, (Below.refl _ _).alloc (Nat.le_refl _) _⟩
  case round =>
    obtain ⟨n, hn, rfl, hown, hb⟩ := hrel
    have hsz := hb.size
    by_cases hlt : n < 256
    · have HS : Hid (∀ w, Calls Tryz.prog 52 #[.int .u32 (n : Int)] w fun e w' => e = .returned (.int .u32 (sbox n : Nat)) ∧ w' = w) := fun w => by
        have := ssub_any n w (by omega)
        rwa [Nat.mod_eq_of_lt hlt] at this
      have HSN : Hid _ := wCells_snoc sbox n
      generalize sbox n = s at HS HSN
      go_wp2_with fail
      refine (HS.out _).mono ?_
      rintro e w' ⟨rfl, hw⟩
      subst w'
      go_wp2_with (at_builtin; (refine wpList_append_own _ rfl _ _ 62 rfl w.heap.size 67 i0 (.int .u32 0) 1 4 Tryz.underlying62 hi hz0 hz1 hz2 rfl (by decide) _ _ _ rfl (hown.alloc _) ⟨wr.heap.size, 0, none⟩ 1 1 [_] rfl rfl (cell_one_new _ _ _) ?c2 ?c3 ?c4 ?c5 ?_))
      case c2 => exact one_u
      case c3 => unfold maxLen; omega
      case c4 => omega
      case c5 => simp; omega
      intro v' w1 hown' hgrow _
      rw [HSN.out] at hown'
      have hb2 : Below w.heap.size w w1 := (hb.alloc (by omega) _).grown hgrow (by simp; omega) (fun k hk => (hown.lt k hk).1)
      have H1 : Hid (w1.ownsRow w.heap.size 67 1 v' (n + 1) (wCells sbox (n + 1)) ∧ Below w.heap.size w w1) := ⟨hown', hb2⟩
      clear hown' hb2 hgrow hown hb HSN
      go_wp2_with fail
      go_roundw
      case rel => exact ⟨n + 1, by omega, by go_num, H1.out.1, H1.out.2⟩
      case measure => simp [cipIntOf]; omega
    · obtain rfl : n = 256 := by omega
      go_wp2_with fail
      go_ret
      exact ⟨⟨_, rfl, hown⟩, hb⟩

set_option linter.unusedSimpArgs false in
set_option maxRecDepth 100000 in
set_option maxHeartbeats 2000000 in
theorem skeys_any (k : ByteArray) (tg tc : Nat) (w : World) (hk : k.size = 32) (hT : ∀ j, j < 256 → w.cell? ⟨tg, j, none⟩ = some (.int .u32 (sbox j : Nat))) (htl : tg < w.heap.size) :
    Calls Tryz.prog 38 #[.slice (some ⟨tg, 0, none⟩) 256 tc, .string k] w fun e w' => (∃ v, e = .returned v ∧ w'.ownsRow w.heap.size 67 1 v 60 (wCells (kw (bsOf k)) 60)) ∧ Below w.heap.size w w' := by
  obtain ⟨i0, hi, hz0, hz1, hz2⟩ := info_parts Tryz.infu
  have HKS : Hid (k.size = 32) := hk
  have HT : Hid (∀ W, Below w.heap.size w W → ∀ j, j < 256 → W.cell? ⟨tg, j, none⟩ = some (.int .u32 (sbox j : Nat))) := fun W hW j hj => (hW.cell (p := ⟨tg, j, none⟩) htl).trans (hT j hj)
  have hks : (32 : Int) ≤ (k.size : Int) := by omega
  clear hT hk
  go_enter Tryz.func38, Tryz.ntmps38
  go_wp2_with fail
  go_loopw [5, 6] (fun v c wr => ∃ n : Nat, n ≤ 8 ∧ c = .int .i64 (n : Int) ∧ wr.ownsRow w.heap.size 67 1 v n (wCells (kw (bsOf k)) n) ∧ Below w.heap.size w wr)
    (fun _ c _ => 8 - (cipIntOf c).toNat)
  case atStart => exact ⟨0, by omega, rfl, World.ownsRow_made w #[] 0 (Nat.le_refl _) (by unfold maxLen; omega) rfl, (Below.refl _ _).alloc (Nat.le_refl _) _⟩
  case round =>
    obtain ⟨n, hn, rfl, hown, hb⟩ := hrel
    have hsz := hb.size
    by_cases hlt : n < 8
    · have hx0 : 4 * n < k.size := by have := HKS.out; omega
      have hx1 : 4 * n + 1 < k.size := by have := HKS.out; omega
      have hx2 : 4 * n + 2 < k.size := by have := HKS.out; omega
      have hx3 : 4 * n + 3 < k.size := by have := HKS.out; omega
      have hy0 : 4 * (n : Int) < (k.size : Int) := by omega
      have hy1 : 4 * (n : Int) + 1 < (k.size : Int) := by omega
      have hy2 : 4 * (n : Int) + 2 < (k.size : Int) := by omega
      have hy3 : 4 * (n : Int) + 3 < (k.size : Int) := by omega
      have hp0 : 0 ≤ 4 * (n : Int) := by omega
      have hp1 : 0 ≤ 4 * (n : Int) + 1 := by omega
      have hp2 : 0 ≤ 4 * (n : Int) + 2 := by omega
      have hp3 : 0 ≤ 4 * (n : Int) + 3 := by omega
      have hw0 : IntKind.i64.wrap (4 * (n : Int)) = 4 * (n : Int) := by rw [IntKind.wrap_i64]; omega
      have hw1 : IntKind.i64.wrap (4 * (n : Int) + 1) = 4 * (n : Int) + 1 := by rw [IntKind.wrap_i64]; omega
      have hw2 : IntKind.i64.wrap (4 * (n : Int) + 2) = 4 * (n : Int) + 2 := by rw [IntKind.wrap_i64]; omega
      have hw3 : IntKind.i64.wrap (4 * (n : Int) + 3) = 4 * (n : Int) + 3 := by rw [IntKind.wrap_i64]; omega
      have b0 := bsOf_at k _ hx0
      have b1 := bsOf_at k _ hx1
      have b2 := bsOf_at k _ hx2
      have b3 := bsOf_at k _ hx3
      have l0 := bsOf_lt k (4 * n)
      have l1 := bsOf_lt k (4 * n + 1)
      have l2 := bsOf_lt k (4 * n + 2)
      have l3 := bsOf_lt k (4 * n + 3)
      have hor := or_word _ _ _ _ l0 l1 l2 l3
      have HKW : Hid (kw (bsOf k) n = ((bsOf k (4 * n) * 256 + bsOf k (4 * n + 1)) * 256 + bsOf k (4 * n + 2)) * 256 + bsOf k (4 * n + 3)) := by
        show _ = _
        rw [kw_low hlt]; simp only [pt, Nat.zero_mul, Nat.zero_add, Nat.add_zero]
      have HSN : Hid _ := wCells_snoc (kw (bsOf k)) n
      rw [HKW.out] at HSN
      generalize bsOf k (4 * n) = c0 at b0 l0 hor HSN
      generalize bsOf k (4 * n + 1) = c1 at b1 l1 hor HSN
      generalize bsOf k (4 * n + 2) = c2 at b2 l2 hor HSN
      generalize bsOf k (4 * n + 3) = c3 at b3 l3 hor HSN
      generalize ((c0 * 256 + c1) * 256 + c2) * 256 + c3 = z at hor HSN
      clear HKW
      have hl3 : n + 1 ≤ maxLen := by unfold maxLen; omega
      have hl4 : (n + 1) * 4 ≤ 140737488355328 := by omega
      go_wp2_with fail
      have ht0 : (4 * (n : Int)).toNat = 4 * n := by omega
      have ht1 : (4 * (n : Int) + 1).toNat = 4 * n + 1 := by omega
      have ht2 : (4 * (n : Int) + 2).toNat = 4 * n + 2 := by omega
      have ht3 : (4 * (n : Int) + 3).toNat = 4 * n + 3 := by omega
      refine wp_region_any (by kernel_rfl) ?_
      change wpAny _ _ _ _ _ _ _ (World.drew _)
      refine wpAny_take (i := 0) (v := u5) rfl (by kernel_rfl) (by kernel_rfl) (by kernel_rfl) (fun _ _ _ h => h) (Or.inl ⟨by rfl, by intro w; go_simp⟩) ?_
      (try simp only [List.getElem_toArray, List.getElem_cons_succ, List.getElem_cons_zero, Act.put, List.setIfInBounds_toArray, List.set_cons_zero, List.set_cons_succ])
      refine wpAny_take (i := 1) (v := .string k) rfl (by kernel_rfl) (by kernel_rfl) (by kernel_rfl) (fun _ _ _ h => h) (Or.inl ⟨by rfl, by intro w; go_simp⟩) ?_
      (try simp only [List.getElem_toArray, List.getElem_cons_succ, List.getElem_cons_zero, Act.put, List.setIfInBounds_toArray, List.set_cons_zero, List.set_cons_succ])
      refine wpAny_take (i := 2) (v := .int .i64 ((n : Int))) rfl (by kernel_rfl) (by kernel_rfl) (by kernel_rfl) (fun _ _ _ h => h) (Or.inl ⟨by rfl, by intro w; go_simp⟩) ?_
      (try simp only [List.getElem_toArray, List.getElem_cons_succ, List.getElem_cons_zero, Act.put, List.setIfInBounds_toArray, List.set_cons_zero, List.set_cons_succ])
      refine wpAny_take (i := 3) (v := .int .i64 (4 * (n : Int))) rfl (by kernel_rfl) (by kernel_rfl) (by kernel_rfl) (fun _ _ _ h => h) (Or.inl ⟨by rfl, by intro w; go_simp⟩) ?_
      (try simp only [List.getElem_toArray, List.getElem_cons_succ, List.getElem_cons_zero, Act.put, List.setIfInBounds_toArray, List.set_cons_zero, List.set_cons_succ])
      refine wpAny_take (i := 4) (v := .int .u8 (c0 : Int)) rfl (by kernel_rfl) (by kernel_rfl) (by kernel_rfl) (fun _ _ _ h => h) (Or.inl ⟨by rfl, by intro w; go_simp <;> (try simp only [ht0]) <;> (try rw [b0])⟩) ?_
      (try simp only [List.getElem_toArray, List.getElem_cons_succ, List.getElem_cons_zero, Act.put, List.setIfInBounds_toArray, List.set_cons_zero, List.set_cons_succ])
      refine wpAny_take (i := 5) (v := .int .u32 ((c0 : Int))) rfl (by kernel_rfl) (by kernel_rfl) (by kernel_rfl) (fun _ _ _ h => h) (Or.inl ⟨by rfl, by intro w; go_simp <;> (try rw [IntKind.wrap_u32]) <;> (try omega)⟩) ?_
      (try simp only [List.getElem_toArray, List.getElem_cons_succ, List.getElem_cons_zero, Act.put, List.setIfInBounds_toArray, List.set_cons_zero, List.set_cons_succ])
      refine wpAny_take (i := 6) (v := .int .u32 ((c0 : Int) * 16777216)) rfl (by kernel_rfl) (by kernel_rfl) (by kernel_rfl) (fun _ _ _ h => h) (Or.inl ⟨by rfl, by intro w; go_simp <;> (try rw [IntKind.wrap_u32]) <;> (try omega)⟩) ?_
      (try simp only [List.getElem_toArray, List.getElem_cons_succ, List.getElem_cons_zero, Act.put, List.setIfInBounds_toArray, List.set_cons_zero, List.set_cons_succ])
      refine wpAny_take (i := 7) (v := .string k) rfl (by kernel_rfl) (by kernel_rfl) (by kernel_rfl) (fun _ _ _ h => h) (Or.inl ⟨by rfl, by intro w; go_simp⟩) ?_
      (try simp only [List.getElem_toArray, List.getElem_cons_succ, List.getElem_cons_zero, Act.put, List.setIfInBounds_toArray, List.set_cons_zero, List.set_cons_succ])
      refine wpAny_take (i := 8) (v := .int .i64 ((n : Int))) rfl (by kernel_rfl) (by kernel_rfl) (by kernel_rfl) (fun _ _ _ h => h) (Or.inl ⟨by rfl, by intro w; go_simp⟩) ?_
      (try simp only [List.getElem_toArray, List.getElem_cons_succ, List.getElem_cons_zero, Act.put, List.setIfInBounds_toArray, List.set_cons_zero, List.set_cons_succ])
      refine wpAny_take (i := 9) (v := .int .i64 (4 * (n : Int))) rfl (by kernel_rfl) (by kernel_rfl) (by kernel_rfl) (fun _ _ _ h => h) (Or.inl ⟨by rfl, by intro w; go_simp⟩) ?_
      (try simp only [List.getElem_toArray, List.getElem_cons_succ, List.getElem_cons_zero, Act.put, List.setIfInBounds_toArray, List.set_cons_zero, List.set_cons_succ])
      refine wpAny_take (i := 10) (v := .int .i64 (4 * (n : Int) + 1)) rfl (by kernel_rfl) (by kernel_rfl) (by kernel_rfl) (fun _ _ _ h => h) (Or.inl ⟨by rfl, by intro w; go_simp⟩) ?_
      (try simp only [List.getElem_toArray, List.getElem_cons_succ, List.getElem_cons_zero, Act.put, List.setIfInBounds_toArray, List.set_cons_zero, List.set_cons_succ])
      refine wpAny_take (i := 11) (v := .int .u8 (c1 : Int)) rfl (by kernel_rfl) (by kernel_rfl) (by kernel_rfl) (fun _ _ _ h => h) (Or.inl ⟨by rfl, by intro w; go_simp <;> (try simp only [ht1]) <;> (try rw [b1])⟩) ?_
      (try simp only [List.getElem_toArray, List.getElem_cons_succ, List.getElem_cons_zero, Act.put, List.setIfInBounds_toArray, List.set_cons_zero, List.set_cons_succ])
      refine wpAny_take (i := 12) (v := .int .u32 ((c1 : Int))) rfl (by kernel_rfl) (by kernel_rfl) (by kernel_rfl) (fun _ _ _ h => h) (Or.inl ⟨by rfl, by intro w; go_simp <;> (try rw [IntKind.wrap_u32]) <;> (try omega)⟩) ?_
      (try simp only [List.getElem_toArray, List.getElem_cons_succ, List.getElem_cons_zero, Act.put, List.setIfInBounds_toArray, List.set_cons_zero, List.set_cons_succ])
      refine wpAny_take (i := 13) (v := .int .u32 ((c1 : Int) * 65536)) rfl (by kernel_rfl) (by kernel_rfl) (by kernel_rfl) (fun _ _ _ h => h) (Or.inl ⟨by rfl, by intro w; go_simp <;> (try rw [IntKind.wrap_u32]) <;> (try omega)⟩) ?_
      (try simp only [List.getElem_toArray, List.getElem_cons_succ, List.getElem_cons_zero, Act.put, List.setIfInBounds_toArray, List.set_cons_zero, List.set_cons_succ])
      refine wpAny_take (i := 14) (v := .int .u32 (bits .or .u32 ((c0 : Int) * 16777216) ((c1 : Int) * 65536))) rfl (by kernel_rfl) (by kernel_rfl) (by kernel_rfl) (fun _ _ _ h => h) (Or.inl ⟨by rfl, by intro w; go_simp⟩) ?_
      (try simp only [List.getElem_toArray, List.getElem_cons_succ, List.getElem_cons_zero, Act.put, List.setIfInBounds_toArray, List.set_cons_zero, List.set_cons_succ])
      refine wpAny_take (i := 15) (v := .string k) rfl (by kernel_rfl) (by kernel_rfl) (by kernel_rfl) (fun _ _ _ h => h) (Or.inl ⟨by rfl, by intro w; go_simp⟩) ?_
      (try simp only [List.getElem_toArray, List.getElem_cons_succ, List.getElem_cons_zero, Act.put, List.setIfInBounds_toArray, List.set_cons_zero, List.set_cons_succ])
      refine wpAny_take (i := 16) (v := .int .i64 ((n : Int))) rfl (by kernel_rfl) (by kernel_rfl) (by kernel_rfl) (fun _ _ _ h => h) (Or.inl ⟨by rfl, by intro w; go_simp⟩) ?_
      (try simp only [List.getElem_toArray, List.getElem_cons_succ, List.getElem_cons_zero, Act.put, List.setIfInBounds_toArray, List.set_cons_zero, List.set_cons_succ])
      refine wpAny_take (i := 17) (v := .int .i64 (4 * (n : Int))) rfl (by kernel_rfl) (by kernel_rfl) (by kernel_rfl) (fun _ _ _ h => h) (Or.inl ⟨by rfl, by intro w; go_simp⟩) ?_
      (try simp only [List.getElem_toArray, List.getElem_cons_succ, List.getElem_cons_zero, Act.put, List.setIfInBounds_toArray, List.set_cons_zero, List.set_cons_succ])
      refine wpAny_take (i := 18) (v := .int .i64 (4 * (n : Int) + 2)) rfl (by kernel_rfl) (by kernel_rfl) (by kernel_rfl) (fun _ _ _ h => h) (Or.inl ⟨by rfl, by intro w; go_simp⟩) ?_
      (try simp only [List.getElem_toArray, List.getElem_cons_succ, List.getElem_cons_zero, Act.put, List.setIfInBounds_toArray, List.set_cons_zero, List.set_cons_succ])
      refine wpAny_take (i := 19) (v := .int .u8 (c2 : Int)) rfl (by kernel_rfl) (by kernel_rfl) (by kernel_rfl) (fun _ _ _ h => h) (Or.inl ⟨by rfl, by intro w; go_simp <;> (try simp only [ht2]) <;> (try rw [b2])⟩) ?_
      (try simp only [List.getElem_toArray, List.getElem_cons_succ, List.getElem_cons_zero, Act.put, List.setIfInBounds_toArray, List.set_cons_zero, List.set_cons_succ])
      refine wpAny_take (i := 20) (v := .int .u32 ((c2 : Int))) rfl (by kernel_rfl) (by kernel_rfl) (by kernel_rfl) (fun _ _ _ h => h) (Or.inl ⟨by rfl, by intro w; go_simp <;> (try rw [IntKind.wrap_u32]) <;> (try omega)⟩) ?_
      (try simp only [List.getElem_toArray, List.getElem_cons_succ, List.getElem_cons_zero, Act.put, List.setIfInBounds_toArray, List.set_cons_zero, List.set_cons_succ])
      refine wpAny_take (i := 21) (v := .int .u32 ((c2 : Int) * 256)) rfl (by kernel_rfl) (by kernel_rfl) (by kernel_rfl) (fun _ _ _ h => h) (Or.inl ⟨by rfl, by intro w; go_simp <;> (try rw [IntKind.wrap_u32]) <;> (try omega)⟩) ?_
      (try simp only [List.getElem_toArray, List.getElem_cons_succ, List.getElem_cons_zero, Act.put, List.setIfInBounds_toArray, List.set_cons_zero, List.set_cons_succ])
      refine wpAny_take (i := 22) (v := .int .u32 (bits .or .u32 (bits .or .u32 ((c0 : Int) * 16777216) ((c1 : Int) * 65536)) ((c2 : Int) * 256))) rfl (by kernel_rfl) (by kernel_rfl) (by kernel_rfl) (fun _ _ _ h => h) (Or.inl ⟨by rfl, by intro w; go_simp⟩) ?_
      (try simp only [List.getElem_toArray, List.getElem_cons_succ, List.getElem_cons_zero, Act.put, List.setIfInBounds_toArray, List.set_cons_zero, List.set_cons_succ])
      refine wpAny_take (i := 23) (v := .string k) rfl (by kernel_rfl) (by kernel_rfl) (by kernel_rfl) (fun _ _ _ h => h) (Or.inl ⟨by rfl, by intro w; go_simp⟩) ?_
      (try simp only [List.getElem_toArray, List.getElem_cons_succ, List.getElem_cons_zero, Act.put, List.setIfInBounds_toArray, List.set_cons_zero, List.set_cons_succ])
      refine wpAny_take (i := 24) (v := .int .i64 ((n : Int))) rfl (by kernel_rfl) (by kernel_rfl) (by kernel_rfl) (fun _ _ _ h => h) (Or.inl ⟨by rfl, by intro w; go_simp⟩) ?_
      (try simp only [List.getElem_toArray, List.getElem_cons_succ, List.getElem_cons_zero, Act.put, List.setIfInBounds_toArray, List.set_cons_zero, List.set_cons_succ])
      refine wpAny_take (i := 25) (v := .int .i64 (4 * (n : Int))) rfl (by kernel_rfl) (by kernel_rfl) (by kernel_rfl) (fun _ _ _ h => h) (Or.inl ⟨by rfl, by intro w; go_simp⟩) ?_
      (try simp only [List.getElem_toArray, List.getElem_cons_succ, List.getElem_cons_zero, Act.put, List.setIfInBounds_toArray, List.set_cons_zero, List.set_cons_succ])
      refine wpAny_take (i := 26) (v := .int .i64 (4 * (n : Int) + 3)) rfl (by kernel_rfl) (by kernel_rfl) (by kernel_rfl) (fun _ _ _ h => h) (Or.inl ⟨by rfl, by intro w; go_simp⟩) ?_
      (try simp only [List.getElem_toArray, List.getElem_cons_succ, List.getElem_cons_zero, Act.put, List.setIfInBounds_toArray, List.set_cons_zero, List.set_cons_succ])
      refine wpAny_take (i := 27) (v := .int .u8 (c3 : Int)) rfl (by kernel_rfl) (by kernel_rfl) (by kernel_rfl) (fun _ _ _ h => h) (Or.inl ⟨by rfl, by intro w; go_simp <;> (try simp only [ht3]) <;> (try rw [b3])⟩) ?_
      (try simp only [List.getElem_toArray, List.getElem_cons_succ, List.getElem_cons_zero, Act.put, List.setIfInBounds_toArray, List.set_cons_zero, List.set_cons_succ])
      refine wpAny_take (i := 28) (v := .int .u32 ((c3 : Int))) rfl (by kernel_rfl) (by kernel_rfl) (by kernel_rfl) (fun _ _ _ h => h) (Or.inl ⟨by rfl, by intro w; go_simp <;> (try rw [IntKind.wrap_u32]) <;> (try omega)⟩) ?_
      (try simp only [List.getElem_toArray, List.getElem_cons_succ, List.getElem_cons_zero, Act.put, List.setIfInBounds_toArray, List.set_cons_zero, List.set_cons_succ])
      refine wpAny_take (i := 29) (v := .int .u32 ((z : Int))) rfl (by kernel_rfl) (by kernel_rfl) (by kernel_rfl) (fun _ _ _ h => h) (Or.inl ⟨by rfl, by intro w; go_simp⟩) ?_
      (try simp only [List.getElem_toArray, List.getElem_cons_succ, List.getElem_cons_zero, Act.put, List.setIfInBounds_toArray, List.set_cons_zero, List.set_cons_succ])
      refine wpAny_ready (rs := [30]) (by kernel_rfl) (by simp) ?_
      refine AllReady.cons rfl (fun K hK => ?_) AllReady.nil
      rw [if_pos (by rfl)]
      go_simp
      refine hK _ _ ?_
      clear hK K
      (try simp only [List.getElem_toArray, List.getElem_cons_succ, List.getElem_cons_zero, Act.put, List.setIfInBounds_toArray, List.set_cons_zero, List.set_cons_succ])
      refine wpAny_ready (rs := [31]) (by kernel_rfl) (by simp) ?_
      refine AllReady.cons rfl (fun K hK => ?_) AllReady.nil
      refine step_append_mine rfl _ _ 62 rfl w.heap.size 67 i0 (.int .u32 0) 1 4 Tryz.underlying62 hi hz0 hz1 hz2 rfl (by decide) _ _ _ rfl ((owns_drew hown).alloc _) ⟨wr.heap.size, 0, none⟩ 1 1 [_] rfl rfl (cell_one_new _ _ _) one_u hl3 hl4 (by simp; omega) ?_
      intro v' w1 hown' hgrow _
      rw [HSN.out] at hown'
      have hb2 : Below w.heap.size w w1 := (hb.drew.alloc (by simp; omega) _).grown hgrow (by simp; omega) (fun k hk => (hown.lt k hk).1)
      have H1 : Hid (w1.ownsRow w.heap.size 67 1 v' (n + 1) (wCells (kw (bsOf k)) (n + 1)) ∧ Below w.heap.size w w1) := ⟨hown', hb2⟩
      clear hown' hb2 hgrow hown hb HSN
      refine hK _ _ ?_
      clear hK K
      (try simp only [List.getElem_toArray, List.getElem_cons_succ, List.getElem_cons_zero, Act.put, List.setIfInBounds_toArray, List.set_cons_zero, List.set_cons_succ])
      refine wpAny_take (i := 32) (v := v') rfl (by kernel_rfl) (by kernel_rfl) (by kernel_rfl) (fun _ _ _ h => h) (Or.inl ⟨by rfl, by intro w; go_simp⟩) ?_
      (try simp only [List.getElem_toArray, List.getElem_cons_succ, List.getElem_cons_zero, Act.put, List.setIfInBounds_toArray, List.set_cons_zero, List.set_cons_succ])
      refine wpAny_done (by kernel_rfl) ?_ _
      go_wp2_with fail
      go_roundw
      case rel =>
        first
          | exact ⟨n + 1, by omega, by go_num, H1.out.1, H1.out.2⟩
          | (repeat apply Exists.intro
             exact ⟨⟨n + 1, by omega, by go_num, H1.out.1, H1.out.2⟩, rfl⟩)
      case measure => simp [cipIntOf]; omega
    · obtain rfl : n = 8 := by omega
      go_wp2_with fail
      go_loopw [5, 7, 8] (fun v q c wr => ∃ n : Nat, 8 ≤ n ∧ n ≤ 60 ∧ c = .int .i64 (n : Int) ∧ q = .int .u32 ((2 ^ ((n - 1) / 8) : Nat) : Int) ∧ wr.ownsRow w.heap.size 67 1 v n (wCells (kw (bsOf k)) n) ∧ Below w.heap.size w wr)
        (fun _ _ c _ => 60 - (cipIntOf c).toNat)
      case atStart => exact ⟨8, by omega, by omega, rfl, rfl, hown, hb⟩
      case round =>
        clear hown hb hsz hlt
        obtain ⟨n, hn8, hn, rfl, rfl, hown, hb⟩ := hrel
        have hsz := hb.size
        by_cases hlt : n < 60
        · have hown0 := hown
          obtain ⟨g, cap, rfl, hg1, hg2, hg3, hcells⟩ := owns_form hown (by omega)
          have c1 := hcells (n - 1) (by omega)
          have c8 := hcells (n - 8) (by omega)
          have l1 := kw_lt (bsOf_lt k) (n - 1) (by omega)
          have l8 := kw_lt (bsOf_lt k) (n - 8) (by omega)
          have hm : (n - 1) / 8 < 7 ∨ (n - 1) / 8 = 7 := by omega
          have hq : 2 ^ ((n - 1) / 8) < 256 := by
            have : ∀ m : Fin 8, 2 ^ m.val < 256 := by decide
            exact this ⟨(n - 1) / 8, by omega⟩
          have HSN : Hid _ := wCells_snoc (kw (bsOf k)) n
          have HWD : Hid (∀ W, Below w.heap.size w W → ∀ x : Nat, x < 4294967296 → Calls Tryz.prog 53 #[.slice (some ⟨tg, 0, none⟩) 256 tc, .int .u32 (x : Int)] W fun e w' => e = .returned (.int .u32 (subW x : Nat)) ∧ w' = W.drew) := fun W hW x hx => sword_any tg tc x W hx (HT.out W hW)
          clear hcells hown0
          by_cases h0 : n % 8 = 0
          · have hm6 : (n - 1) / 8 < 7 := by omega
            have HTM : Hid (∀ w, Calls Tryz.prog 54 #[.int .u32 ((2 ^ ((n - 1) / 8) : Nat) : Int), .int .u32 2] w fun e w' => e = .returned (.int .u32 ((2 ^ ((n + 1 - 1) / 8) : Nat) : Int)) ∧ w' = w) := fun w => by
              have := stimes_any (2 ^ ((n - 1) / 8)) 2 w hq
              have e : ∀ m : Fin 7, mulB (2 ^ m.val) 2 = 2 ^ (m.val + 1) := by decide +kernel
              rwa [e ⟨(n - 1) / 8, hm6⟩, show (n - 1) / 8 + 1 = (n + 1 - 1) / 8 by omega] at this
            have hkw := kw_zero (bs := bsOf k) (j := n) (by omega) h0
            have hpe : 2 ^ (23 + n / 8) = 2 ^ ((n - 1) / 8) * 16777216 := by
              rw [show 23 + n / 8 = (n - 1) / 8 + 24 by omega, Nat.pow_add]
            rw [hpe] at hkw
            rw [hkw] at HSN
            clear hkw hpe
            have ho := rl8_or l1
            have hr8 := rl8_lt l1
            have hs8 := subW_lt hr8
            generalize kw (bsOf k) (n - 1) = x1 at c1 l1 HSN ho hr8 hs8
            generalize kw (bsOf k) (n - 8) = x8 at c8 l8 HSN
            have HX : Hid (∀ W, Below w.heap.size w W → Calls Tryz.prog 53 #[.slice (some ⟨tg, 0, none⟩) 256 tc, .int .u32 ((rl8 x1 : Nat) : Int)] W fun e w' => e = .returned (.int .u32 (subW (rl8 x1) : Nat)) ∧ w' = W.drew) := fun W hW => HWD.out W hW _ hr8
            generalize hq2 : 2 ^ ((n + 1 - 1) / 8) = q2 at HTM ⊢
            have HQ2 : Hid _ := hq2
            clear hq2
            generalize 2 ^ ((n - 1) / 8) = q at hq HTM HSN ⊢
            generalize subW (rl8 x1) = s1 at hs8 HSN HX
            generalize rl8 x1 = y1 at ho hr8 HX
            have hx1 : bits .xor .u32 (s1 : Int) ((q : Int) * 16777216) = ((s1 ^^^ (q * 16777216) : Nat) : Int) := by
              rw [show (q : Int) * 16777216 = ((q * 16777216 : Nat) : Int) by omega]
              exact u32_xor_nat _ _ hs8 (by omega)
            have hlx : s1 ^^^ (q * 16777216) < 4294967296 := xor32 hs8 (by omega)
            have hx2 : bits .xor .u32 (x8 : Int) ((s1 ^^^ (q * 16777216) : Nat) : Int) = (((x8 ^^^ (q * 16777216)) ^^^ s1 : Nat) : Int) := by
              rw [u32_xor_nat _ _ l8 hlx]
              congr 1
              rw [Nat.xor_assoc, Nat.xor_comm (q * 16777216) s1]
            generalize s1 ^^^ (q * 16777216) = y2 at hx1 hlx hx2
            generalize (x8 ^^^ (q * 16777216)) ^^^ s1 = z at hx2 HSN
            have he : ((n : Int) % 8 == 0) = true := by rw [beq_iff_eq]; omega
            have he4 : ((n : Int) % 8 == 4) = false := by rw [beq_eq_false_iff_ne]; omega
            go_wp2_with fail
            refine (HX.out _ hb).mono ?_
            rintro e w' ⟨rfl, hw⟩
            subst w'
            go_wp2_with fail
            refine (HTM.out _).mono ?_
            rintro e w' ⟨rfl, hw⟩
            subst w'
            go_wp2_with (at_builtin; (refine wpList_append_own _ rfl _ _ 62 rfl w.heap.size 67 i0 (.int .u32 0) 1 4 Tryz.underlying62 hi hz0 hz1 hz2 rfl (by decide) _ _ _ rfl ((owns_drew hown).alloc _) ⟨wr.heap.size, 0, none⟩ 1 1 [_] rfl rfl (cell_one_new _ _ _) ?c2 ?c3 ?c4 ?c5 ?_))
            case c2 => exact one_u
            case c3 => unfold maxLen; omega
            case c4 => omega
            case c5 => simp; omega
            intro v' w1 hown' hgrow _
            rw [HSN.out] at hown'
            have hb2 : Below w.heap.size w w1 := (hb.drew.alloc (by first | omega | (simp; omega)) _).grown hgrow (by simp; omega) (fun k hk => ((owns_drew hown).lt k hk).1)
            have H1 : Hid (w1.ownsRow w.heap.size 67 1 v' (n + 1) (wCells (kw (bsOf k)) (n + 1)) ∧ Below w.heap.size w w1) := ⟨hown', hb2⟩
            clear hown' hb2 hgrow hown hb HSN
            go_wp2_with fail
            go_roundw
            case rel =>
              first
                | exact ⟨n + 1, by omega, by omega, by go_num, by rw [HQ2.out], H1.out.1, H1.out.2⟩
                | (repeat apply Exists.intro
                   exact ⟨⟨n + 1, by omega, by omega, by go_num, by rw [HQ2.out], H1.out.1, H1.out.2⟩, rfl⟩)
            case measure => simp [cipIntOf]; omega
          · have hqn : 2 ^ ((n + 1 - 1) / 8) = 2 ^ ((n - 1) / 8) := by rw [show (n + 1 - 1) / 8 = (n - 1) / 8 by omega]
            have HQN : Hid _ := hqn
            clear hqn
            have he : ((n : Int) % 8 == 0) = false := by rw [beq_eq_false_iff_ne]; omega
            by_cases h4 : n % 8 = 4
            · have hkw := kw_four (bs := bsOf k) (j := n) (by omega) h4
              rw [hkw] at HSN
              clear hkw
              have hs8 := subW_lt l1
              generalize kw (bsOf k) (n - 1) = x1 at c1 l1 HSN hs8
              generalize kw (bsOf k) (n - 8) = x8 at c8 l8 HSN
              have HX : Hid (∀ W, Below w.heap.size w W → Calls Tryz.prog 53 #[.slice (some ⟨tg, 0, none⟩) 256 tc, .int .u32 (x1 : Int)] W fun e w' => e = .returned (.int .u32 (subW x1 : Nat)) ∧ w' = W.drew) := fun W hW => HWD.out W hW _ l1
              have hx2 : bits .xor .u32 (x8 : Int) ((subW x1 : Nat) : Int) = ((x8 ^^^ subW x1 : Nat) : Int) := u32_xor_nat _ _ l8 hs8
              generalize x8 ^^^ subW x1 = z at hx2 HSN
              generalize subW x1 = s1 at hs8 hx2 HX
              generalize 2 ^ ((n - 1) / 8) = q at hq HQN ⊢
              have he4 : ((n : Int) % 8 == 4) = true := by rw [beq_iff_eq]; omega
              go_wp2_with fail
              refine (HX.out _ hb).mono ?_
              rintro e w' ⟨rfl, hw⟩
              subst w'
              go_wp2_with (at_builtin; (refine wpList_append_own _ rfl _ _ 62 rfl w.heap.size 67 i0 (.int .u32 0) 1 4 Tryz.underlying62 hi hz0 hz1 hz2 rfl (by decide) _ _ _ rfl ((owns_drew hown).alloc _) ⟨wr.heap.size, 0, none⟩ 1 1 [_] rfl rfl (cell_one_new _ _ _) ?c2 ?c3 ?c4 ?c5 ?_))
              case c2 => exact one_u
              case c3 => unfold maxLen; omega
              case c4 => omega
              case c5 => simp; omega
              intro v' w1 hown' hgrow _
              rw [HSN.out] at hown'
              have hb2 : Below w.heap.size w w1 := (hb.drew.alloc (by first | omega | (simp; omega)) _).grown hgrow (by simp; omega) (fun k hk => ((owns_drew hown).lt k hk).1)
              have H1 : Hid (w1.ownsRow w.heap.size 67 1 v' (n + 1) (wCells (kw (bsOf k)) (n + 1)) ∧ Below w.heap.size w w1) := ⟨hown', hb2⟩
              clear hown' hb2 hgrow hown hb HSN
              go_wp2_with fail
              go_roundw
              case rel =>
                first
                  | exact ⟨n + 1, by omega, by omega, by go_num, by rw [HQN.out], H1.out.1, H1.out.2⟩
                  | (repeat apply Exists.intro
                     exact ⟨⟨n + 1, by omega, by omega, by go_num, by rw [HQN.out], H1.out.1, H1.out.2⟩, rfl⟩)
              case measure => simp [cipIntOf]; omega
            · have hkw := kw_else (bs := bsOf k) (j := n) (by omega) h0 h4
              rw [hkw] at HSN
              clear hkw
              generalize kw (bsOf k) (n - 1) = x1 at c1 l1 HSN
              generalize kw (bsOf k) (n - 8) = x8 at c8 l8 HSN
              have hx2 : bits .xor .u32 (x8 : Int) (x1 : Int) = ((x8 ^^^ x1 : Nat) : Int) := u32_xor_nat _ _ l8 l1
              generalize x8 ^^^ x1 = z at hx2 HSN
              generalize 2 ^ ((n - 1) / 8) = q at hq HQN ⊢
              have he4 : ((n : Int) % 8 == 4) = false := by rw [beq_eq_false_iff_ne]; omega
              go_wp2_with (at_builtin; (refine wpList_append_own _ rfl _ _ 62 rfl w.heap.size 67 i0 (.int .u32 0) 1 4 Tryz.underlying62 hi hz0 hz1 hz2 rfl (by decide) _ _ _ rfl (hown.alloc _) ⟨wr.heap.size, 0, none⟩ 1 1 [_] rfl rfl (cell_one_new _ _ _) ?c2 ?c3 ?c4 ?c5 ?_))
              case c2 => exact one_u
              case c3 => unfold maxLen; omega
              case c4 => omega
              case c5 => simp; omega
              intro v' w1 hown' hgrow _
              rw [HSN.out] at hown'
              have hb2 : Below w.heap.size w w1 := (hb.alloc (by first | omega | (simp; omega)) _).grown hgrow (by simp; omega) (fun k hk => (hown.lt k hk).1)
              have H1 : Hid (w1.ownsRow w.heap.size 67 1 v' (n + 1) (wCells (kw (bsOf k)) (n + 1)) ∧ Below w.heap.size w w1) := ⟨hown', hb2⟩
              clear hown' hb2 hgrow hown hb HSN
              go_wp2_with fail
              go_roundw
              case rel =>
                first
                  | exact ⟨n + 1, by omega, by omega, by go_num, by rw [HQN.out], H1.out.1, H1.out.2⟩
                  | (repeat apply Exists.intro
                     exact ⟨⟨n + 1, by omega, by omega, by go_num, by rw [HQN.out], H1.out.1, H1.out.2⟩, rfl⟩)
              case measure => simp [cipIntOf]; omega
        · obtain rfl : n = 60 := by omega
          go_wp2_with fail
          go_ret
          exact ⟨⟨_, rfl, hown⟩, hb⟩
end Go.Proofs.YtnkahdidelhdaacGreatDoor
