/-
  Files that are marked, and whether they are held: the law's own ways.
-/
import Derived.Test.YtanlggglbpibfaaFlA
import Derived.Test.YtanlggglbpibfaaShaHigh
import Derived.Test.YtanlggglbpibfaaHeld
namespace Go.Proofs.Ytanlggglbpibfaa
open Go.RowKit
set_option linter.unusedVariables false
set_option linter.unusedSimpArgs false
def natP : Value → Nat | .int _ q => q.toNat | _ => 0
/-- a number's digits ahead of a text -/
def digB (k : Nat) (out : ByteArray) : ByteArray := if h : k = 0 then out else digB (k / 10) (⟨#[UInt8.ofNat (48 + k % 10)]⟩ ++ out)
termination_by k
decreasing_by omega
theorem digB_zero (out : ByteArray) : digB 0 out = out := by unfold digB; rw [dif_pos rfl]
theorem digB_succ {k : Nat} (h : 0 < k) (out : ByteArray) : digB k out = digB (k / 10) (⟨#[UInt8.ofNat (48 + k % 10)]⟩ ++ out) := by
  conv => lhs; unfold digB
  rw [dif_neg (by omega)]
def mkT (k : Nat) : ByteArray := ⟨#[109]⟩ ++ digB k ⟨#[]⟩
theorem digB_size (k : Nat) : ∀ (d : Nat) (out : ByteArray), k < 10 ^ d → (digB k out).size ≤ out.size + d := by
  induction k using Nat.strongRecOn with
  | _ k ih =>
    intro d out hk
    by_cases h0 : k = 0
    · subst h0; rw [digB_zero]; omega
    · rw [digB_succ (by omega)]
      cases d with
      | zero => simp at hk; omega
      | succ d =>
        have := ih (k / 10) (by omega) d (⟨#[UInt8.ofNat (48 + k % 10)]⟩ ++ out) (by rw [Nat.pow_succ] at hk; omega)
        rw [ByteArray.size_append] at this
        have e : (⟨#[UInt8.ofNat (48 + k % 10)]⟩ : ByteArray).size = 1 := rfl
        omega
set_option maxRecDepth 100000 in
set_option maxHeartbeats 1000000 in
theorem markT_any (k : Nat) (w : World) (h1 : 1 ≤ k) (h2 : k ≤ 10000000) :
    Calls Try.prog 97 #[.int .i64 (k : Int)] w fun e w' => e = .returned (.string (mkT k)) ∧ Below w.heap.size w w' := by
  have hkI : ¬ (k : Int) ≤ 0 := by omega
  have HK : Hid (digB k ⟨#[]⟩ = digB k ⟨#[]⟩) := rfl
  go_enter Try.func97, Try.ntmps97
  go_wp2_with fail
  go_loopw [0, 3] (fun v o wr => ∃ (q : Nat) (out : ByteArray), v = .int .i64 (q : Int) ∧ o = .string out ∧ q ≤ 10000000 ∧ out.size ≤ 10000000 - q ∧ digB q out = digB k ⟨#[]⟩ ∧ Below w.heap.size w wr) (fun v _ _ => natP v)
  case atStart => exact ⟨k, ⟨#[]⟩, rfl, rfl, h2, by show 0 ≤ _; omega, rfl, Below.refl _ _⟩
  case round =>
    obtain ⟨q, out, rfl, rfl, hq, ho, hd, hb⟩ := hrel
    by_cases h0 : 0 < q
    · have h0I : (0 : Int) < (q : Int) := by omega
      have HD : Hid (digB (q / 10) (⟨#[UInt8.ofNat (48 + q % 10)]⟩ ++ out) = digB k ⟨#[]⟩) := by rw [← digB_succ h0]; exact hd
      obtain ⟨z, hz⟩ : ∃ z, z = 48 + q % 10 := ⟨_, rfl⟩
      have hzz : (48 : Int) + (q : Int) % 10 = (z : Int) := by omega
      have hcv : (convert 22 9 (.slice (some ⟨wr.heap.size, 0, none⟩) 1 1)).run Try.prog (wr.alloc (.cells #[.int .u8 (z : Int)] 5)) = .ok (.string ⟨[UInt8.ofNat z].toArray⟩) (wr.alloc (.cells #[.int .u8 (z : Int)] 5)) := conv_rowb wr #[.int .u8 (z : Int)] [UInt8.ofNat z] 1 (by
        simp [Lib.byteCells]
        have : z % 256 = z := by omega
        omega)
      rw [← hzz] at hcv
      have HZ : Hid (z = 48 + q % 10) := hz
      have HO : Hid (out.size ≤ 10000000 - q) := ho
      have HB : Hid (Below w.heap.size w wr) := hb
      have hz58 : z < 58 := by omega
      rw [← hz] at HD
      have hsz : ¬ 9223372036854775807 < 1 + out.size := by omega
      clear hd hz ho hb hzz
      go_wp2_with fail
      go_roundw
      case rel => exact ⟨q / 10, ⟨[UInt8.ofNat z].toArray⟩ ++ out, by go_num, rfl, by omega, by
        rw [ByteArray.size_append]
        have e : (⟨[UInt8.ofNat z].toArray⟩ : ByteArray).size = 1 := rfl
        have := HO.out
        omega, HD.out, HB.out.alloc HB.out.size _⟩
      case measure => simp [natP]; omega
    · obtain rfl : q = 0 := by omega
      rw [digB_zero] at hd
      have hsz : ¬ 9223372036854775807 < 1 + out.size := by omega
      have HE : Hid (⟨#[109]⟩ ++ out = mkT k) := by rw [hd]; rfl
      clear hd
      go_wp2_with fail
      go_ret
      exact ⟨congrArg (fun x => Ending.returned (Value.string x)) HE.out, hb⟩
theorem row_ltFm {w : World} {g : Nat} {o : Obj} (h : w.heap[g]? = some o) : g < w.heap.size := (Array.getElem?_eq_some_iff.1 h).1
/-- files that bear marks from k on -/
def FmAt (w : World) (g n k : Nat) : Prop := ∀ j, j < n → w.cell? ⟨g, 2 * j, none⟩ = some (.string (mkT (k + 2 * j))) ∧ w.cell? ⟨g, 2 * j + 1, none⟩ = some (.string (mkT (k + 2 * j + 1)))
theorem FmAt.below {w w' : World} {g n k B : Nat} (h : FmAt w g n k) (hb : Below B w w') (hg : g < B) : FmAt w' g n k := fun j hj =>
  ⟨(hb.cell (p := ⟨g, 2 * j, none⟩) hg).trans (h j hj).1, (hb.cell (p := ⟨g, 2 * j + 1, none⟩) hg).trans (h j hj).2⟩
set_option maxRecDepth 100000 in
theorem markF_zero (a : Option Addr) (c k : Nat) (w : World) :
    Calls Try.prog 72 #[.slice a 0 c, .int .i64 (k : Int)] w fun e w' => e = .returned (.int .i64 (k : Int)) ∧ w' = w := by
  go_enter Try.func72, Try.ntmps72
  go_wp2_with fail
  refine wp_loop_rounds 1 ?_
  rw [rounds_succ]
  go_wp2_with fail
  go_ret
  exact ⟨rfl, rfl⟩
set_option maxRecDepth 100000 in
theorem heldF_zero (a : Option Addr) (c k : Nat) (w : World) :
    Calls Try.prog 74 #[.slice a 0 c, .int .i64 (k : Int)] w fun e w' => e = .returned (.int .i64 (k : Int)) ∧ w' = w := by
  go_enter Try.func74, Try.ntmps74
  go_wp2_with fail
  refine wp_loop_rounds 1 ?_
  rw [rounds_succ]
  go_wp2_with fail
  go_ret
  exact ⟨rfl, rfl⟩
theorem hidK {p : Prop} (h : p) : Hid p := h
set_option maxRecDepth 100000 in
set_option maxHeartbeats 4000000 in
theorem heldF_any (g c n k : Nat) (w : World) (hn : n ≤ 1000) (h1 : 1 ≤ k) (hk : k ≤ 1000) (hg : g < w.heap.size) (hc : FmAt w g n k) :
    Calls Try.prog 74 #[.slice (some ⟨g, 0, none⟩) n c, .int .i64 (k : Int)] w fun e w' => e = .returned (.int .i64 ((k + 2 * n : Nat) : Int)) ∧ Below w.heap.size w w' := by
  have HC : Hid (∀ w', Below w.heap.size w w' → FmAt w' g n k) := fun w' hb => hc.below hb hg
  have HM : Hid (∀ (k : Nat) (w : World), 1 ≤ k → k ≤ 10000000 → Calls Try.prog 97 #[.int .i64 (k : Int)] w fun e w' => e = .returned (.string (mkT k)) ∧ Below w.heap.size w w') := fun k w h1 h2 => markT_any k w h1 h2
  clear hc hg
  go_enter Try.func74, Try.ntmps74
  go_wp2_with fail
  go_loopw [1, 5] (fun x v wr => ∃ i : Nat, i ≤ n ∧ x = .int .i64 ((k + 2 * i : Nat) : Int) ∧ v = .int .i64 (i : Int) ∧ Below w.heap.size w wr) (fun _ v _ => n - natP v)
  case atStart => exact ⟨0, by omega, rfl, rfl, Below.refl _ _⟩
  case round =>
    obtain ⟨i, hi, rfl, rfl, hb⟩ := hrel
    by_cases hlt : i < n
    · have hltI : (i : Int) < (n : Int) := by omega
      obtain ⟨q, hq⟩ : ∃ q, q = 2 * i := ⟨_, rfl⟩
      obtain ⟨k0, hk0⟩ : ∃ k0, k0 = k + 2 * i := ⟨_, rfl⟩
      obtain ⟨k3, hk3⟩ : ∃ k3, k3 = k0 + 1 := ⟨_, rfl⟩
      have HMK0 : Hid (∀ w, Calls Try.prog 97 #[.int .i64 (k0 : Int)] w fun e w' => e = .returned (.string (mkT k0)) ∧ Below w.heap.size w w') := fun w => HM.out k0 w (by omega) (by omega)
      have HMK3 : Hid (∀ w, Calls Try.prog 97 #[.int .i64 (k3 : Int)] w fun e w' => e = .returned (.string (mkT k3)) ∧ Below w.heap.size w w') := fun w => HM.out k3 w (by omega) (by omega)
      obtain ⟨S, hSS⟩ : ∃ S : World → Prop, S = fun w' => Below w.heap.size w w' := ⟨_, rfl⟩
      have hSd : S wr.drew := by rw [hSS]; exact hb.drew
      have HX : Hid (∀ w', S w' → w'.cell? ⟨g, q, none⟩ = some (.string (mkT k0)) ∧ w'.cell? ⟨g, q + 1, none⟩ = some (.string (mkT k3))) := fun w' hS' => by
        rw [hSS] at hS'
        have := HC.out w' hS' i hlt
        rw [← hq, show k + q = k0 by omega, show k0 + 1 = k3 by omega] at this
        exact this
      have HS : Hid (S = fun w' => Below w.heap.size w w') := hSS
      have ei : ((k + 2 * i : Nat) : Int) = (k0 : Int) := by omega
      have ek3 : (k0 : Int) + 1 = (k3 : Int) := by omega
      have hiq : i * 2 = q := by omega
      have hk0l : k0 ≤ 8000000 := by omega
      have hk3l : k3 ≤ 8000003 := by omega
      have HK : Hid (k0 = k + 2 * i ∧ k3 = k0 + 1) := ⟨hk0, hk3⟩
      have HX0 : Hid (∀ w', S w' → w'.cell? ⟨g, q, none⟩ = some (.string (mkT k0))) := fun w' h => (HX.out w' h).1
      have HX3 : Hid (∀ w', S w' → w'.cell? ⟨g, q + 1, none⟩ = some (.string (mkT k3))) := fun w' h => (HX.out w' h).2
      clear HX
      generalize mkT k0 = T0 at *
      generalize mkT k3 = T3 at *
      rw [ei]
      clear hSS hq hk0 hk3 ei hb
      go_wp2_with fail
      refine wp_region_held (S := S) (by kernel_rfl) ?_
      change wpAnyH _ _ _ _ _ _ _ _ (World.drew _)
      refine wpAnyH_take (i := 0) (v := .slice (some ⟨g, 0, none⟩) n c) rfl (by kernel_rfl) (by kernel_rfl) (by kernel_rfl) (fun _ _ _ h => h) (Or.inl ⟨by rfl, by intro w' hS'; go_simp <;> (first | omega | (rw [IntKind.wrap_i64]; omega) | (rw [IntKind.wrap_u64]; omega) | (rw [IntKind.wrap_u32]; omega) | (rw [Int.tmod_eq_emod_of_nonneg (by omega)]) | rfl)⟩) hSd ?_
      (try simp only [List.getElem_toArray, List.getElem_cons_succ, List.getElem_cons_zero, Act.put, List.setIfInBounds_toArray, List.set_cons_zero, List.set_cons_succ])
      refine wpAnyH_take (i := 1) (v := .int .i64 (i : Int)) rfl (by kernel_rfl) (by kernel_rfl) (by kernel_rfl) (fun _ _ _ h => h) (Or.inl ⟨by rfl, by intro w' hS'; go_simp <;> (first | omega | (rw [IntKind.wrap_i64]; omega) | (rw [IntKind.wrap_u64]; omega) | (rw [IntKind.wrap_u32]; omega) | (rw [Int.tmod_eq_emod_of_nonneg (by omega)]) | rfl)⟩) hSd ?_
      (try simp only [List.getElem_toArray, List.getElem_cons_succ, List.getElem_cons_zero, Act.put, List.setIfInBounds_toArray, List.set_cons_zero, List.set_cons_succ])
      refine wpAnyH_take (i := 2) (v := .pointer (some ⟨g, q, none⟩)) rfl (by kernel_rfl) (by kernel_rfl) (by kernel_rfl) (fun _ _ _ h => h) (Or.inl ⟨by rfl, by intro w' hS'; go_simp <;> (first | omega | (rw [IntKind.wrap_i64]; omega) | (rw [IntKind.wrap_u64]; omega) | (rw [IntKind.wrap_u32]; omega) | (rw [Int.tmod_eq_emod_of_nonneg (by omega)]) | rfl)⟩) hSd ?_
      (try simp only [List.getElem_toArray, List.getElem_cons_succ, List.getElem_cons_zero, Act.put, List.setIfInBounds_toArray, List.set_cons_zero, List.set_cons_succ])
      refine wpAnyH_take (i := 3) (v := .pointer (some ⟨g, q, none⟩)) rfl (by kernel_rfl) (by kernel_rfl) (by kernel_rfl) (fun _ _ _ h => h) (Or.inl ⟨by rfl, by intro w' hS'; go_simp <;> (first | omega | (rw [IntKind.wrap_i64]; omega) | (rw [IntKind.wrap_u64]; omega) | (rw [IntKind.wrap_u32]; omega) | (rw [Int.tmod_eq_emod_of_nonneg (by omega)]) | rfl)⟩) hSd ?_
      (try simp only [List.getElem_toArray, List.getElem_cons_succ, List.getElem_cons_zero, Act.put, List.setIfInBounds_toArray, List.set_cons_zero, List.set_cons_succ])
      refine wpAnyH_take (i := 4) (v := .string T0) rfl (by kernel_rfl) (by kernel_rfl) (by kernel_rfl) (fun _ _ _ h => h) (Or.inl ⟨by rfl, by intro w' hS'; have hxx := HX0.out w' hS'; go_simp <;> (first | omega | (rw [IntKind.wrap_i64]; omega) | (rw [IntKind.wrap_u64]; omega) | (rw [IntKind.wrap_u32]; omega) | (rw [Int.tmod_eq_emod_of_nonneg (by omega)]) | rfl)⟩) hSd ?_
      (try simp only [List.getElem_toArray, List.getElem_cons_succ, List.getElem_cons_zero, Act.put, List.setIfInBounds_toArray, List.set_cons_zero, List.set_cons_succ])
      refine wpAnyH_take (i := 5) (v := .int .i64 (k0 : Int)) rfl (by kernel_rfl) (by kernel_rfl) (by kernel_rfl) (fun _ _ _ h => h) (Or.inl ⟨by rfl, by intro w' hS'; go_simp <;> (first | omega | (rw [IntKind.wrap_i64]; omega) | (rw [IntKind.wrap_u64]; omega) | (rw [IntKind.wrap_u32]; omega) | (rw [Int.tmod_eq_emod_of_nonneg (by omega)]) | rfl)⟩) hSd ?_
      (try simp only [List.getElem_toArray, List.getElem_cons_succ, List.getElem_cons_zero, Act.put, List.setIfInBounds_toArray, List.set_cons_zero, List.set_cons_succ])
      refine held_stepS (i := 6) (by kernel_rfl) rfl (by rfl) ?_
      go_simp
      refine (HMK0.out _).mono ?_
      rintro e w3 ⟨rfl, hbX⟩
      have hb3 : Below w.heap.size w w3 := by have hx := hSd; rw [HS.out] at hx; exact blFl hx hbX hx.size
      have hS3 : S w3 := by rw [HS.out]; exact hb3
      refine ⟨hS3, ?_⟩
      (try simp only [List.getElem_toArray, List.getElem_cons_succ, List.getElem_cons_zero, Act.put, List.setIfInBounds_toArray, List.set_cons_zero, List.set_cons_succ])
      refine wpAnyH_take (i := 7) (v := .bool false) rfl (by kernel_rfl) (by kernel_rfl) (by kernel_rfl) (fun _ _ _ h => h) (Or.inl ⟨by rfl, by intro w' hS'; go_simp <;> (first | omega | (rw [IntKind.wrap_i64]; omega) | (rw [IntKind.wrap_u64]; omega) | (rw [IntKind.wrap_u32]; omega) | (rw [Int.tmod_eq_emod_of_nonneg (by omega)]) | rfl)⟩) hS3 ?_
      (try simp only [List.getElem_toArray, List.getElem_cons_succ, List.getElem_cons_zero, Act.put, List.setIfInBounds_toArray, List.set_cons_zero, List.set_cons_succ])
      refine wpAnyH_done (by kernel_rfl) ?_ _
      have hSd3 : S w3.drew := by rw [HS.out]; exact hb3.drew
      have HB3 := hidK hb3
      clear hSd hbX hb3
      go_wp2_with fail
      refine wp_region_held (S := S) (by kernel_rfl) ?_
      change wpAnyH _ _ _ _ _ _ _ _ (World.drew _)
      refine wpAnyH_take (i := 0) (v := .slice (some ⟨g, 0, none⟩) n c) rfl (by kernel_rfl) (by kernel_rfl) (by kernel_rfl) (fun _ _ _ h => h) (Or.inl ⟨by rfl, by intro w' hS'; go_simp <;> (first | omega | (rw [IntKind.wrap_i64]; omega) | (rw [IntKind.wrap_u64]; omega) | (rw [IntKind.wrap_u32]; omega) | (rw [Int.tmod_eq_emod_of_nonneg (by omega)]) | rfl)⟩) hSd3 ?_
      (try simp only [List.getElem_toArray, List.getElem_cons_succ, List.getElem_cons_zero, Act.put, List.setIfInBounds_toArray, List.set_cons_zero, List.set_cons_succ])
      refine wpAnyH_take (i := 1) (v := .int .i64 (i : Int)) rfl (by kernel_rfl) (by kernel_rfl) (by kernel_rfl) (fun _ _ _ h => h) (Or.inl ⟨by rfl, by intro w' hS'; go_simp <;> (first | omega | (rw [IntKind.wrap_i64]; omega) | (rw [IntKind.wrap_u64]; omega) | (rw [IntKind.wrap_u32]; omega) | (rw [Int.tmod_eq_emod_of_nonneg (by omega)]) | rfl)⟩) hSd3 ?_
      (try simp only [List.getElem_toArray, List.getElem_cons_succ, List.getElem_cons_zero, Act.put, List.setIfInBounds_toArray, List.set_cons_zero, List.set_cons_succ])
      refine wpAnyH_take (i := 2) (v := .pointer (some ⟨g, q, none⟩)) rfl (by kernel_rfl) (by kernel_rfl) (by kernel_rfl) (fun _ _ _ h => h) (Or.inl ⟨by rfl, by intro w' hS'; go_simp <;> (first | omega | (rw [IntKind.wrap_i64]; omega) | (rw [IntKind.wrap_u64]; omega) | (rw [IntKind.wrap_u32]; omega) | (rw [Int.tmod_eq_emod_of_nonneg (by omega)]) | rfl)⟩) hSd3 ?_
      (try simp only [List.getElem_toArray, List.getElem_cons_succ, List.getElem_cons_zero, Act.put, List.setIfInBounds_toArray, List.set_cons_zero, List.set_cons_succ])
      refine wpAnyH_take (i := 3) (v := .pointer (some ⟨g, q + 1, none⟩)) rfl (by kernel_rfl) (by kernel_rfl) (by kernel_rfl) (fun _ _ _ h => h) (Or.inl ⟨by rfl, by intro w' hS'; go_simp <;> (first | omega | (rw [IntKind.wrap_i64]; omega) | (rw [IntKind.wrap_u64]; omega) | (rw [IntKind.wrap_u32]; omega) | (rw [Int.tmod_eq_emod_of_nonneg (by omega)]) | rfl)⟩) hSd3 ?_
      (try simp only [List.getElem_toArray, List.getElem_cons_succ, List.getElem_cons_zero, Act.put, List.setIfInBounds_toArray, List.set_cons_zero, List.set_cons_succ])
      refine wpAnyH_take (i := 4) (v := .string T3) rfl (by kernel_rfl) (by kernel_rfl) (by kernel_rfl) (fun _ _ _ h => h) (Or.inl ⟨by rfl, by intro w' hS'; have hxx := HX3.out w' hS'; go_simp <;> (first | omega | (rw [IntKind.wrap_i64]; omega) | (rw [IntKind.wrap_u64]; omega) | (rw [IntKind.wrap_u32]; omega) | (rw [Int.tmod_eq_emod_of_nonneg (by omega)]) | rfl)⟩) hSd3 ?_
      (try simp only [List.getElem_toArray, List.getElem_cons_succ, List.getElem_cons_zero, Act.put, List.setIfInBounds_toArray, List.set_cons_zero, List.set_cons_succ])
      refine wpAnyH_take (i := 5) (v := .int .i64 (k3 : Int)) rfl (by kernel_rfl) (by kernel_rfl) (by kernel_rfl) (fun _ _ _ h => h) (Or.inl ⟨by rfl, by intro w' hS'; go_simp <;> (first | omega | (rw [IntKind.wrap_i64]; omega) | (rw [IntKind.wrap_u64]; omega) | (rw [IntKind.wrap_u32]; omega) | (rw [Int.tmod_eq_emod_of_nonneg (by omega)]) | rfl)⟩) hSd3 ?_
      (try simp only [List.getElem_toArray, List.getElem_cons_succ, List.getElem_cons_zero, Act.put, List.setIfInBounds_toArray, List.set_cons_zero, List.set_cons_succ])
      refine held_stepS (i := 6) (by kernel_rfl) rfl (by rfl) ?_
      go_simp
      refine (HMK3.out _).mono ?_
      rintro e w4 ⟨rfl, hbX⟩
      have hb4 : Below w.heap.size w w4 := by have hx := hSd3; rw [HS.out] at hx; exact blFl hx hbX hx.size
      have hS4 : S w4 := by rw [HS.out]; exact hb4
      refine ⟨hS4, ?_⟩
      (try simp only [List.getElem_toArray, List.getElem_cons_succ, List.getElem_cons_zero, Act.put, List.setIfInBounds_toArray, List.set_cons_zero, List.set_cons_succ])
      refine wpAnyH_take (i := 7) (v := .bool false) rfl (by kernel_rfl) (by kernel_rfl) (by kernel_rfl) (fun _ _ _ h => h) (Or.inl ⟨by rfl, by intro w' hS'; go_simp <;> (first | omega | (rw [IntKind.wrap_i64]; omega) | (rw [IntKind.wrap_u64]; omega) | (rw [IntKind.wrap_u32]; omega) | (rw [Int.tmod_eq_emod_of_nonneg (by omega)]) | rfl)⟩) hS4 ?_
      (try simp only [List.getElem_toArray, List.getElem_cons_succ, List.getElem_cons_zero, Act.put, List.setIfInBounds_toArray, List.set_cons_zero, List.set_cons_succ])
      refine wpAnyH_done (by kernel_rfl) ?_ _
      go_wp2_with fail
      go_roundw
      case rel => exact ⟨i + 1, by omega, by have := HK.out; show Value.int .i64 _ = Value.int .i64 _; congr 1; omega, by go_num, hb4⟩
      case measure => simp [natP]; omega
    · obtain rfl : i = n := by omega
      go_wp2_with fail
      go_ret
      exact ⟨rfl, hb⟩
set_option maxRecDepth 100000 in
set_option maxHeartbeats 4000000 in
theorem markF_any (g c n k : Nat) (cur : Array Value) (w : World) (hn : n ≤ 1000) (h1 : 1 ≤ k) (hk : k ≤ 1000) (hg : w.heap[g]? = some (.cells cur 88 (0, 0))) (hcs : 2 * n ≤ cur.size) :
    Calls Try.prog 72 #[.slice (some ⟨g, 0, none⟩) n c, .int .i64 (k : Int)] w fun e w' => (e = .returned (.int .i64 ((k + 2 * n : Nat) : Int)) ∧ FmAt w' g n k) ∧ w.grownBy w' (some g) := by
  have HM : Hid (∀ (k : Nat) (w : World), 1 ≤ k → k ≤ 10000000 → Calls Try.prog 97 #[.int .i64 (k : Int)] w fun e w' => e = .returned (.string (mkT k)) ∧ Below w.heap.size w w') := fun k w h1 h2 => markT_any k w h1 h2
  have HST : Hid (w.grownBy w (some g) ∧ w.heap[g]? = some (.cells cur 88 (0, 0)) ∧ 2 * n ≤ cur.size) := ⟨⟨rfl, rfl, rfl, Nat.le_refl _, fun _ _ _ => rfl⟩, hg, hcs⟩
  clear hg hcs
  go_enter Try.func72, Try.ntmps72
  go_wp2_with fail
  go_loopw [1, 5] (fun x v wr => ∃ (i : Nat) (C : Array Value), i ≤ n ∧ x = .int .i64 ((k + 2 * i : Nat) : Int) ∧ v = .int .i64 (i : Int) ∧ Hid (w.grownBy wr (some g) ∧ wr.heap[g]? = some (.cells C 88 (0, 0)) ∧ 2 * n ≤ C.size) ∧ Hid (∀ j, j < i → C[2 * j]? = some (.string (mkT (k + 2 * j))) ∧ C[2 * j + 1]? = some (.string (mkT (k + 2 * j + 1))))) (fun _ v _ => n - natP v)
  case atStart => exact ⟨0, cur, by omega, rfl, rfl, HST, fun j hj => absurd hj (by omega)⟩
  case round =>
    obtain ⟨i, C, hi, rfl, rfl, HW, HC⟩ := hrel
    by_cases hlt : i < n
    · have hltI : (i : Int) < (n : Int) := by omega
      obtain ⟨q, hq⟩ : ∃ q, q = 2 * i := ⟨_, rfl⟩
      obtain ⟨k0, hk0⟩ : ∃ k0, k0 = k + 2 * i := ⟨_, rfl⟩
      obtain ⟨k3, hk3⟩ : ∃ k3, k3 = k0 + 1 := ⟨_, rfl⟩
      have HMK0 : Hid (∀ w, Calls Try.prog 97 #[.int .i64 (k0 : Int)] w fun e w' => e = .returned (.string (mkT k0)) ∧ Below w.heap.size w w') := fun w => HM.out k0 w (by omega) (by omega)
      have HMK3 : Hid (∀ w, Calls Try.prog 97 #[.int .i64 (k3 : Int)] w fun e w' => e = .returned (.string (mkT k3)) ∧ Below w.heap.size w w') := fun w => HM.out k3 w (by omega) (by omega)
      have hsz := HW.out.2.2
      have HT : Hid (∀ j, j < i + 1 → (setFl C q (.string (mkT k0)) (.string (mkT k3)))[2 * j]? = some (.string (mkT (k + 2 * j))) ∧ (setFl C q (.string (mkT k0)) (.string (mkT k3)))[2 * j + 1]? = some (.string (mkT (k + 2 * j + 1)))) := fun j hj => by
        by_cases hji : j < i
        · rw [setFl_low _ _ _ _ _ (by omega), setFl_low _ _ _ _ _ (by omega)]
          exact HC.out j hji
        · obtain rfl : j = i := by omega
          rw [← hq, setFl_0 _ _ _ _ (by omega), setFl_1 _ _ _ _ (by omega)]
          have e1 : k + q = k0 := by omega
          rw [e1, ← hk3]
          exact ⟨rfl, rfl⟩
      have ei : ((k + 2 * i : Nat) : Int) = (k0 : Int) := by omega
      have ek3 : (k0 : Int) + 1 = (k3 : Int) := by omega
      have hiq : i * 2 = q := by omega
      have hk0l : k0 ≤ 8000000 := by omega
      have hk3l : k3 ≤ 8000003 := by omega
      have hqs : q + 1 < C.size := by omega
      have HK : Hid (k0 = k + 2 * i ∧ k3 = k0 + 1) := ⟨hk0, hk3⟩
      have HSZ := hidK hsz
      generalize hT0 : mkT k0 = T0 at *
      generalize hT3 : mkT k3 = T3 at *
      rw [ei]
      clear hq hk0 hk3 ei hT0 hT3 hsz
      go_wp2_with fail
      refine (HMK0.out _).mono ?_
      rintro e w2 ⟨rfl, hb2⟩
      have hrow := (hb2.block g (row_ltFm HW.out.2.1)).trans HW.out.2.1
      have x0 : w2.cell? ⟨g, q, none⟩ = some C[q] := (cell_of_row w2 _ q _ _ _ hrow).trans (Array.getElem?_eq_getElem (by omega))
      have z0 := frozen_of_row w2 _ q _ _ hrow
      have hr2 : (w2.setCell ⟨g, q, none⟩ (.string T0)).heap[g]? = some (.cells (C.setIfInBounds q (.string T0)) 88 (0, 0)) := heap_setCell_same _ _ _ _ _ _ hrow
      have hg2 : w.grownBy (w2.setCell ⟨g, q, none⟩ (.string T0)) (some g) := by
        have hg := HW.out.1
        exact ⟨hb2.os.trans hg.os, hb2.tape.trans hg.tape, hb2.output.trans hg.output, by simp; exact Nat.le_trans hg.size hb2.size, fun k hk hne => (heap_setCell_other _ _ _ _ (fun e => hne (by rw [e]))).trans ((hb2.block k (Nat.lt_of_lt_of_le hk hg.size)).trans (hg.block k hk hne))⟩
      have HR2 : Hid _ := hr2
      have HG2 : Hid _ := hg2
      generalize C[q] = y0 at x0
      clear hrow hr2 hg2 HW hb2
      go_wp2_with fail
      refine (HMK3.out _).mono ?_
      rintro e w3 ⟨rfl, hb3⟩
      have hrow3 := (hb3.block g (row_ltFm HR2.out)).trans HR2.out
      have x3 : w3.cell? ⟨g, q + 1, none⟩ = some C[q + 1] := by
        rw [cell_of_row w3 _ (q + 1) _ _ _ hrow3, Array.getElem?_setIfInBounds_ne (by omega)]
        exact Array.getElem?_eq_getElem (by omega)
      have z3 := frozen_of_row w3 _ (q + 1) _ _ hrow3
      have HN : Hid (w.grownBy (w3.setCell ⟨g, q + 1, none⟩ (.string T3)) (some g) ∧ (w3.setCell ⟨g, q + 1, none⟩ (.string T3)).heap[g]? = some (.cells (setFl C q (.string T0) (.string T3)) 88 (0, 0)) ∧ 2 * n ≤ (setFl C q (.string T0) (.string T3)).size) := by
        refine ⟨?_, heap_setCell_same _ _ _ _ _ _ hrow3, by rw [setFl_size]; exact HSZ.out⟩
        have hg := HG2.out
        exact ⟨hb3.os.trans hg.os, hb3.tape.trans hg.tape, hb3.output.trans hg.output, by simp; exact Nat.le_trans hg.size hb3.size, fun k hk hne => (heap_setCell_other _ _ _ _ (fun e => hne (by rw [e]))).trans ((hb3.block k (Nat.lt_of_lt_of_le hk hg.size)).trans (hg.block k hk hne))⟩
      generalize C[q + 1] = y3 at x3
      clear hrow3 hb3 HR2 HG2 x0 z0
      go_wp2_with fail
      go_roundw
      case rel => exact ⟨i + 1, _, by omega, by have := HK.out; show Value.int .i64 _ = Value.int .i64 _; congr 1; omega, by go_num, HN, HT⟩
      case measure => simp [natP]; omega
    · obtain rfl : i = n := by omega
      go_wp2_with fail
      go_ret
      exact ⟨⟨rfl, fun j hj => ⟨(cell_of_row wr _ _ _ _ _ HW.out.2.1).trans (HC.out j hj).1, (cell_of_row wr _ _ _ _ _ HW.out.2.1).trans (HC.out j hj).2⟩⟩, HW.out.1⟩
end Go.Proofs.Ytanlggglbpibfaa
