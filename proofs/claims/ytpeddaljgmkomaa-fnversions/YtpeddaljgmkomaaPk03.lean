/-
  Several texts of this seat as one: ShaHigh, Held, PMk.
-/
import Derived.Test.YtpeddaljgmkomaaPk02
import Derived.Laws.MakeOwn
import Derived.Laws.Rows
import Derived.Laws.AppendOwn
import Derived.WalkSmall
import Derived.Test.YtpeddaljgmkomaaRows
import Derived.RangeFuncCalls
import Derived.OwnWalkIn
import Derived.OrdersIn
import Derived.OrdersHeld
import Derived.BigQuiet
import Derived.WalkKit
import Derived.Test.YtpeddaljgmkomaaPk01

/-!   A number's bytes, the highest first: what highFirst and l1Big answer. -/
namespace Go.Proofs.Ytpeddaljgmkomaa
open Go.RowKit

def bigIntOf : Value → Int | .int _ q => q | _ => 0
/-- so many bytes of a number, the highest first -/
def bigL (n : Nat) : Nat → List UInt8
  | 0 => []
  | k + 1 => bigL (n / 256) k ++ [UInt8.ofNat n]
theorem bigL_len (n : Nat) : ∀ k, (bigL n k).length = k := by
  intro k
  induction k generalizing n with
  | zero => rfl
  | succ k ih => rw [bigL, List.length_append, ih]; rfl
theorem div256 (n i : Nat) : n / 256 ^ i / 256 = n / 256 ^ (i + 1) := by rw [Nat.div_div_eq_div_mul, Nat.pow_succ]
theorem bigL_at (n : Nat) : ∀ k j, j < k → (bigL n k)[k - 1 - j]? = some (UInt8.ofNat (n / 256 ^ j)) := by
  intro k
  induction k generalizing n with
  | zero => intro j h; omega
  | succ k ih =>
    intro j h
    rw [bigL]
    by_cases h0 : j = 0
    · subst h0
      rw [List.getElem?_append_right (by rw [bigL_len]; omega), bigL_len]
      simp
    · obtain ⟨i, rfl⟩ : ∃ i, j = i + 1 := ⟨j - 1, by omega⟩
      rw [List.getElem?_append_left (by rw [bigL_len]; omega), show k + 1 - 1 - (i + 1) = k - 1 - i by omega, ih (n / 256) i (by omega)]
      rw [Nat.pow_succ, Nat.mul_comm, Nat.div_div_eq_div_mul]
theorem byteCells_snoc (l : List UInt8) (n : Nat) : Lib.byteCells l ++ [Value.int .u8 ((n % 256 : Nat) : Int)] = Lib.byteCells (l ++ [UInt8.ofNat n]) := by
  simp [Lib.byteCells]

theorem conv_rowb (w : World) (cur : Array Value) (l : List UInt8) (c : Nat) (hl : cur.toList.take l.length = Lib.byteCells l) :
    (convert 39 9 (.slice (some ⟨w.heap.size, 0, none⟩) l.length c)).run Try.prog (w.alloc (.cells cur 5)) = .ok (.string ⟨l.toArray⟩) (w.alloc (.cells cur 5)) := by
  refine run_convert_bytes_back _ 39 9 5 _ c l Try.underlying39 Try.underlying5 Try.underlying9 ?_
  intro j hj
  have h1 : (Lib.byteCells l)[j]? = some (.int .u8 (l[j].toNat : Int)) := by simp [Lib.byteCells, hj]
  have h2 : cur[j]? = some (.int .u8 (l[j].toNat : Int)) := by
    rw [← hl, List.getElem?_take, if_pos hj] at h1
    simpa using h1
  have ea : (⟨w.heap.size, 0, none⟩ : Addr).add j = ⟨w.heap.size, j, none⟩ := by
    unfold Addr.add
    by_cases h0 : j = 0
    · subst h0; simp
    · simp [h0]
  rw [ea, World.cell?_alloc_mark, h2]
end Go.Proofs.Ytpeddaljgmkomaa

/-!   A region that draws its order, within a round of a loop over an iterator: walked by hand as anywhere. -/
namespace Go.Proofs.Ytpeddaljgmkomaa
open Go.RowKit
set_option linter.unusedVariables false
theorem held_stepS {P : Program} {md : Region.Mode} {ops : Array Oper} {Q : Exit → Act → World → Prop} {S : World → Prop} {i : Nat} {o : Oper} {fuel : Nat} {listed : Array Bool} {a : Act} {w : World}
    (hr : Region.ready md ops listed = [i]) (hi : ops[i]? = some o) (hw : Region.wanted o (yielded ops a.tmps) = true)
    (h : Oper.wp P o a w (fun a' w' => S w' ∧ wpAnyH P md ops Q S fuel (listed.setIfInBounds i true) a' w') Q) : wpAnyH P md ops Q S (fuel + 1) listed a w :=
  wpAnyH_all hr (by simp) (fun j hj => by
    have e : j = i := by simpa using hj
    subst e
    unfold wpOp
    simp only [hi, hw, if_true]
    exact Or.inl h)
theorem held_two {P : Program} {md : Region.Mode} {ops : Array Oper} {Q : Exit → Act → World → Prop} {S : World → Prop} {i k : Nat} {o u : Oper} {fuel : Nat} {listed : Array Bool} {a : Act} {w : World}
    (hr : Region.ready md ops listed = [i, k]) (hi : ops[i]? = some o) (hk : ops[k]? = some u) (hw : Region.wanted o (yielded ops a.tmps) = true) (hv : Region.wanted u (yielded ops a.tmps) = true)
    (h1 : Oper.wp P o a w (fun a' w' => S w' ∧ wpAnyH P md ops Q S fuel (listed.setIfInBounds i true) a' w') Q)
    (h2 : Oper.wp P u a w (fun a' w' => S w' ∧ wpAnyH P md ops Q S fuel (listed.setIfInBounds k true) a' w') Q) : wpAnyH P md ops Q S (fuel + 1) listed a w :=
  wpAnyH_all hr (by simp) (fun j hj => by
    have e : j = i ∨ j = k := by simpa using hj
    rcases e with rfl | rfl
    · unfold wpOp
      simp only [hi, hw, if_true]
      exact Or.inl h1
    · unfold wpOp
      simp only [hk, hv, if_true]
      exact Or.inl h2)
theorem rows_round {l n : Nat} {P : Program} {row : String} {args : Array Value} {w : World} {R : Value → World → Prop} (h : Rows P row args w R) : RowsIn (Fence.wide.inRound l) n P row args w R := fun c cs _ => by
  obtain ⟨v, w', r, s⟩ := h c cs
  exact ⟨v, w', r, stepsIn_wide.2 s⟩
theorem upon_round {l n : Nat} {P : Program} {o : Oper} {a : Act} {K : Act → World → Prop} {Q : Exit → Act → World → Prop} {r : Result Next} (h : Oper.upon P o a K Q r) : Oper.uponIn (Fence.wide.inRound l) n P o a K Q r := by
  match r, h with
  | .ok (.value v) w', h => exact h
  | .ok .skip w', h => exact h
  | .ok (.defer d) w', h => exact h
  | .ok (.enter f args) w', h => exact ⟨fun c => (by cases c), CallsIn.inRound l (callsIn_wide.2 h)⟩
  | .ok (.row r args) w', h => exact ⟨fun c => (by cases c), rows_round h⟩
  | .halt (.panic v) w', h => exact h
theorem op_round {l n : Nat} {P : Program} {o : Oper} {a : Act} {w : World} {K : Act → World → Prop} {Q : Exit → Act → World → Prop} (hnd : ∀ c, o.op ≠ .defer c) (h : o.wp P a w K Q) : o.wpIn (Fence.wide.inRound l) n P a w K Q :=
  ⟨fun _ _ => trivial, by rw [Oper.semAt_plain _ _ _ hnd]; exact upon_round h⟩
theorem any_round {l n : Nat} {P : Program} {md : Region.Mode} {ops : Array Oper} {Q : Exit → Act → World → Prop} (hnd : ∀ (i : Nat) (o : Oper), ops[i]? = some o → ∀ c, o.op ≠ .defer c) (hlo : ¬ LetsOut Q) :
    ∀ (fuel : Nat) (listed : Array Bool) (a : Act) (w : World), wpAny P md ops Q fuel listed a w → wpAnyIn (Fence.wide.inRound l) n P md ops Q fuel listed a w
  | 0, _, _, _, h => h
  | fuel + 1, listed, a, w, h => ⟨h.1, fun i hi => by
    have h2 := h.2 i hi
    unfold wpOp at h2
    unfold wpOpIn
    cases ho : ops[i]? with
    | none => rw [ho] at h2; exact any_round hnd hlo fuel _ _ _ h2
    | some o =>
      rw [ho] at h2
      simp only [] at h2 ⊢
      split
      · rename_i hw
        rw [if_pos hw] at h2
        rcases h2 with h2 | h2
        · exact op_round (hnd i o ho) (Oper.wp_mono (fun a w q => any_round hnd hlo fuel _ a w q) h2)
        · exact absurd h2.2 hlo
      · rename_i hw
        rw [if_neg hw] at h2
        exact ⟨fun _ _ => trivial, any_round hnd hlo fuel _ _ _ h2⟩⟩
def plainOp (o : Oper) : Bool := match o.op with | .defer _ => false | _ => true
theorem plain_ops {ops : Array Oper} (h : ops.all plainOp = true) : ∀ (i : Nat) (o : Oper), ops[i]? = some o → ∀ c, o.op ≠ .defer c := fun i o ho c hc => by
  have h1 := Array.all_eq_true.1 h i (Array.getElem?_eq_some_iff.1 ho).1
  rw [(Array.getElem?_eq_some_iff.1 ho).2] at h1
  unfold plainOp at h1
  rw [hc] at h1
  cases h1
theorem region_round {l n id : Nat} {P : Program} {ops : Array Oper} {Q : Exit → Act → World → Prop} {S : World → Prop} {a : Act} {w : World} (hm : P.follows .mixedOrders = true) (hp : ops.all plainOp = true) (hlo : ¬ LetsOut Q)
    (h : wpAnyH P .any ops Q S ops.size (Array.replicate ops.size false) a { w with drawn := w.drawn + 1 }) : (Code.region id ops true).wpIn (Fence.wide.inRound l) n P Q a w :=
  wpIn_region_any hm (any_round (plain_ops hp) hlo _ _ _ _ (wpAny_of_held _ _ _ _ h))
end Go.Proofs.Ytpeddaljgmkomaa

/-!   Pieces that are marked, and whether they are held: the law's own ways. -/
namespace Go.Proofs.Ytpeddaljgmkomaa
open Go.RowKit
set_option linter.unusedVariables false
set_option linter.unusedSimpArgs false
def natP : Value → Nat | .int _ q => q.toNat | _ => 0
/-- a number's digits ahead of a text -/
def digB (k : Nat) (out : ByteArray) : ByteArray := if h : k = 0 then out else digB (k / 10) (⟨#[UInt8.ofNat (48 + k % 10)]⟩ ++ out)
termination_by k
decreasing_by omega
theorem digB_zero (out : ByteArray) : digB 0 out = out := by unfold digB; rw [dif_pos rfl]
theorem digB_succ {k : Nat} (h : 0 < k) (out : ByteArray) : digB k out = digB (k / 10) (⟨#[UInt8.ofNat (48 + k % 10)]⟩ ++ out) := by
  conv => lhs; unfold digB
  rw [dif_neg (by omega)]
def mkT (k : Nat) : ByteArray := ⟨#[109]⟩ ++ digB k ⟨#[]⟩
theorem digB_size (k : Nat) : ∀ (d : Nat) (out : ByteArray), k < 10 ^ d → (digB k out).size ≤ out.size + d := by
  induction k using Nat.strongRecOn with
  | _ k ih =>
    intro d out hk
    by_cases h0 : k = 0
    · subst h0; rw [digB_zero]; omega
    · rw [digB_succ (by omega)]
      cases d with
      | zero => simp at hk; omega
      | succ d =>
        have := ih (k / 10) (by omega) d (⟨#[UInt8.ofNat (48 + k % 10)]⟩ ++ out) (by rw [Nat.pow_succ] at hk; omega)
        rw [ByteArray.size_append] at this
        have e : (⟨#[UInt8.ofNat (48 + k % 10)]⟩ : ByteArray).size = 1 := rfl
        omega
set_option maxRecDepth 100000 in
set_option maxHeartbeats 1000000 in
theorem markT_any (k : Nat) (w : World) (h1 : 1 ≤ k) (h2 : k ≤ 10000000) :
    Calls Try.prog 51 #[.int .i64 (k : Int)] w fun e w' => e = .returned (.string (mkT k)) ∧ Below w.heap.size w w' := by
  have hkI : ¬ (k : Int) ≤ 0 := by omega
  have HK : Hid (digB k ⟨#[]⟩ = digB k ⟨#[]⟩) := rfl
  go_enter Try.func51, Try.ntmps51
  go_wp2_with fail
  go_loopw [0, 3] (fun v o wr => ∃ (q : Nat) (out : ByteArray), v = .int .i64 (q : Int) ∧ o = .string out ∧ q ≤ 10000000 ∧ out.size ≤ 10000000 - q ∧ digB q out = digB k ⟨#[]⟩ ∧ Below w.heap.size w wr) (fun v _ _ => natP v)
  case atStart => exact ⟨k, ⟨#[]⟩, rfl, rfl, h2, by show 0 ≤ _; omega, rfl, Below.refl _ _⟩
  case round =>
    obtain ⟨q, out, rfl, rfl, hq, ho, hd, hb⟩ := hrel
    by_cases h0 : 0 < q
    · have h0I : (0 : Int) < (q : Int) := by omega
      have HD : Hid (digB (q / 10) (⟨#[UInt8.ofNat (48 + q % 10)]⟩ ++ out) = digB k ⟨#[]⟩) := by rw [← digB_succ h0]; exact hd
      obtain ⟨z, hz⟩ : ∃ z, z = 48 + q % 10 := ⟨_, rfl⟩
      have hzz : (48 : Int) + (q : Int) % 10 = (z : Int) := by omega
      have hcv : (convert 39 9 (.slice (some ⟨wr.heap.size, 0, none⟩) 1 1)).run Try.prog (wr.alloc (.cells #[.int .u8 (z : Int)] 5)) = .ok (.string ⟨[UInt8.ofNat z].toArray⟩) (wr.alloc (.cells #[.int .u8 (z : Int)] 5)) := conv_rowb wr #[.int .u8 (z : Int)] [UInt8.ofNat z] 1 (by
        simp [Lib.byteCells]
        have : z % 256 = z := by omega
        omega)
      rw [← hzz] at hcv
      have HZ : Hid (z = 48 + q % 10) := hz
      have HO : Hid (out.size ≤ 10000000 - q) := ho
      have HB : Hid (Below w.heap.size w wr) := hb
      have hz58 : z < 58 := by omega
      rw [← hz] at HD
      have hsz : ¬ 9223372036854775807 < 1 + out.size := by omega
      clear hd hz ho hb hzz
      go_wp2_with fail
      go_roundw
      case rel => exact ⟨q / 10, ⟨[UInt8.ofNat z].toArray⟩ ++ out, by go_num, rfl, by omega, by
        rw [ByteArray.size_append]
        have e : (⟨[UInt8.ofNat z].toArray⟩ : ByteArray).size = 1 := rfl
        have := HO.out
        omega, HD.out, HB.out.alloc HB.out.size _⟩
      case measure => simp [natP]; omega
    · obtain rfl : q = 0 := by omega
      rw [digB_zero] at hd
      have hsz : ¬ 9223372036854775807 < 1 + out.size := by omega
      have HE : Hid (⟨#[109]⟩ ++ out = mkT k) := by rw [hd]; rfl
      clear hd
      go_wp2_with fail
      go_ret
      exact ⟨congrArg (fun x => Ending.returned (Value.string x)) HE.out, hb⟩
theorem row_ltM {w : World} {g : Nat} {o : Obj} (h : w.heap[g]? = some o) : g < w.heap.size := (Array.getElem?_eq_some_iff.1 h).1
/-- pieces that bear marks from k on -/
def MkAt (w : World) (g n k : Nat) : Prop := ∀ j, j < n → w.cell? ⟨g, 3 * j, none⟩ = some (.int .i64 ((k + 3 * j : Nat) : Int)) ∧ w.cell? ⟨g, 3 * j + 1, none⟩ = some (.int .i64 ((k + 3 * j + 1 : Nat) : Int)) ∧ w.cell? ⟨g, 3 * j + 2, none⟩ = some (.string (mkT (k + 3 * j + 2)))
theorem MkAt.below {w w' : World} {g n k B : Nat} (h : MkAt w g n k) (hb : Below B w w') (hg : g < B) : MkAt w' g n k := fun j hj =>
  ⟨(hb.cell (p := ⟨g, 3 * j, none⟩) hg).trans (h j hj).1, (hb.cell (p := ⟨g, 3 * j + 1, none⟩) hg).trans (h j hj).2.1, (hb.cell (p := ⟨g, 3 * j + 2, none⟩) hg).trans (h j hj).2.2⟩
set_option maxRecDepth 100000 in
theorem markP_zero (a : Option Addr) (c k : Nat) (w : World) :
    Calls Try.prog 52 #[.slice a 0 c, .int .i64 (k : Int)] w fun e w' => e = .returned (.int .i64 (k : Int)) ∧ w' = w := by
  go_enter Try.func52, Try.ntmps52
  go_wp2_with fail
  refine wp_loop_rounds 1 ?_
  rw [rounds_succ]
  go_wp2_with fail
  go_ret
  exact ⟨rfl, rfl⟩
set_option maxRecDepth 100000 in
theorem heldP_zero (a : Option Addr) (c k : Nat) (w : World) :
    Calls Try.prog 53 #[.slice a 0 c, .int .i64 (k : Int)] w fun e w' => e = .returned (.int .i64 (k : Int)) ∧ w' = w := by
  go_enter Try.func53, Try.ntmps53
  go_wp2_with fail
  refine wp_loop_rounds 1 ?_
  rw [rounds_succ]
  go_wp2_with fail
  go_ret
  exact ⟨rfl, rfl⟩
set_option maxRecDepth 100000 in
set_option maxHeartbeats 2000000 in
theorem heldP_any (g c n k : Nat) (w : World) (hn : n ≤ 1048576) (h1 : 1 ≤ k) (hk : k ≤ 4000000) (hg : g < w.heap.size) (hc : MkAt w g n k) :
    Calls Try.prog 53 #[.slice (some ⟨g, 0, none⟩) n c, .int .i64 (k : Int)] w fun e w' => e = .returned (.int .i64 ((k + 3 * n : Nat) : Int)) ∧ Below w.heap.size w w' := by
  have HC : Hid (∀ w', Below w.heap.size w w' → MkAt w' g n k) := fun w' hb => hc.below hb hg
  have HM : Hid (∀ (k : Nat) (w : World), 1 ≤ k → k ≤ 10000000 → Calls Try.prog 51 #[.int .i64 (k : Int)] w fun e w' => e = .returned (.string (mkT k)) ∧ Below w.heap.size w w') := fun k w h1 h2 => markT_any k w h1 h2
  clear hc hg
  go_enter Try.func53, Try.ntmps53
  go_wp2_with fail
  go_loopw [1, 5] (fun x v wr => ∃ i : Nat, i ≤ n ∧ x = .int .i64 ((k + 3 * i : Nat) : Int) ∧ v = .int .i64 (i : Int) ∧ Below w.heap.size w wr) (fun _ v _ => n - natP v)
  case atStart => exact ⟨0, by omega, rfl, rfl, Below.refl _ _⟩
  case round =>
    obtain ⟨i, hi, rfl, rfl, hb⟩ := hrel
    by_cases hlt : i < n
    · have hltI : (i : Int) < (n : Int) := by omega
      obtain ⟨c0, c1, c2⟩ := HC.out wr hb i hlt
      obtain ⟨q, hq⟩ : ∃ q, q = 3 * i := ⟨_, rfl⟩
      obtain ⟨k0, hk0⟩ : ∃ k0, k0 = k + 3 * i := ⟨_, rfl⟩
      obtain ⟨k2, hk2⟩ : ∃ k2, k2 = k0 + 2 := ⟨_, rfl⟩
      have e2 : k + 3 * i + 2 = k2 := by omega
      have HMK : Hid (∀ w, Calls Try.prog 51 #[.int .i64 (k2 : Int)] w fun e w' => e = .returned (.string (mkT k2)) ∧ Below w.heap.size w w') := fun w => HM.out k2 w (by omega) (by omega)
      obtain ⟨S, hSS⟩ : ∃ S : World → Prop, S = fun w' => Below w.heap.size w w' := ⟨_, rfl⟩
      have hSd : S wr.drew := by rw [hSS]; exact hb.drew
      have hx : ∀ w', S w' → w'.cell? ⟨g, q + 2, none⟩ = some (.string (mkT k2)) := fun w' hS' => by rw [hSS] at hS'; rw [hq, ← e2]; exact (HC.out w' hS' i hlt).2.2
      have HX : Hid _ := hx
      have HS : Hid (S = fun w' => Below w.heap.size w w') := hSS
      rw [← hq] at c0 c1 c2
      have e0 : k + q = k0 := by omega
      have ei : ((k + 3 * i : Nat) : Int) = (k0 : Int) := by omega
      rw [e0] at c0 c1
      have e1 : ((k0 + 1 : Nat) : Int) = (k0 : Int) + 1 := by omega
      rw [e1] at c1
      have ek2 : (k0 : Int) + 1 + 1 = (k2 : Int) := by omega
      have hiq : i * 3 = q := by omega
      have hk0l : k0 ≤ 8000000 := by omega
      have hk2l : k2 ≤ 8000002 := by omega
      have HK : Hid (k0 = k + 3 * i ∧ k2 = k0 + 2) := ⟨hk0, hk2⟩
      generalize mkT k2 = T at *
      rw [ei]
      clear hSS hx hq hk0 hk2 e2 e0 ei e1 c2
      go_wp2_with fail
      refine wp_region_held (S := S) (by kernel_rfl) ?_
      change wpAnyH _ _ _ _ _ _ _ _ (World.drew _)
      refine wpAnyH_take (i := 0) (v := .slice (some ⟨g, 0, none⟩) n c) rfl (by kernel_rfl) (by kernel_rfl) (by kernel_rfl) (fun _ _ _ h => h) (Or.inl ⟨by rfl, by intro w' hS'; go_simp <;> (first | omega | (rw [IntKind.wrap_i64]; omega) | (rw [IntKind.wrap_u64]; omega) | (rw [IntKind.wrap_u32]; omega) | (rw [Int.tmod_eq_emod_of_nonneg (by omega)]))⟩) hSd ?_
      (try simp only [List.getElem_toArray, List.getElem_cons_succ, List.getElem_cons_zero, Act.put, List.setIfInBounds_toArray, List.set_cons_zero, List.set_cons_succ])
      refine wpAnyH_take (i := 1) (v := .int .i64 (i : Int)) rfl (by kernel_rfl) (by kernel_rfl) (by kernel_rfl) (fun _ _ _ h => h) (Or.inl ⟨by rfl, by intro w' hS'; go_simp <;> (first | omega | (rw [IntKind.wrap_i64]; omega) | (rw [IntKind.wrap_u64]; omega) | (rw [IntKind.wrap_u32]; omega) | (rw [Int.tmod_eq_emod_of_nonneg (by omega)]))⟩) hSd ?_
      (try simp only [List.getElem_toArray, List.getElem_cons_succ, List.getElem_cons_zero, Act.put, List.setIfInBounds_toArray, List.set_cons_zero, List.set_cons_succ])
      refine wpAnyH_take (i := 2) (v := .pointer (some ⟨g, q, none⟩)) rfl (by kernel_rfl) (by kernel_rfl) (by kernel_rfl) (fun _ _ _ h => h) (Or.inl ⟨by rfl, by intro w' hS'; go_simp <;> (first | omega | (rw [IntKind.wrap_i64]; omega) | (rw [IntKind.wrap_u64]; omega) | (rw [IntKind.wrap_u32]; omega) | (rw [Int.tmod_eq_emod_of_nonneg (by omega)]))⟩) hSd ?_
      (try simp only [List.getElem_toArray, List.getElem_cons_succ, List.getElem_cons_zero, Act.put, List.setIfInBounds_toArray, List.set_cons_zero, List.set_cons_succ])
      refine wpAnyH_take (i := 3) (v := .pointer (some ⟨g, q + 2, none⟩)) rfl (by kernel_rfl) (by kernel_rfl) (by kernel_rfl) (fun _ _ _ h => h) (Or.inl ⟨by rfl, by intro w' hS'; go_simp <;> (first | omega | (rw [IntKind.wrap_i64]; omega) | (rw [IntKind.wrap_u64]; omega) | (rw [IntKind.wrap_u32]; omega) | (rw [Int.tmod_eq_emod_of_nonneg (by omega)]))⟩) hSd ?_
      (try simp only [List.getElem_toArray, List.getElem_cons_succ, List.getElem_cons_zero, Act.put, List.setIfInBounds_toArray, List.set_cons_zero, List.set_cons_succ])
      refine wpAnyH_take (i := 4) (v := .string T) rfl (by kernel_rfl) (by kernel_rfl) (by kernel_rfl) (fun _ _ _ h => h) (Or.inl ⟨by rfl, by intro w' hS'; have hxx := HX.out w' hS'; go_simp <;> (first | omega | (rw [IntKind.wrap_i64]; omega) | (rw [IntKind.wrap_u64]; omega) | (rw [IntKind.wrap_u32]; omega) | (rw [Int.tmod_eq_emod_of_nonneg (by omega)]))⟩) hSd ?_
      (try simp only [List.getElem_toArray, List.getElem_cons_succ, List.getElem_cons_zero, Act.put, List.setIfInBounds_toArray, List.set_cons_zero, List.set_cons_succ])
      refine wpAnyH_take (i := 5) (v := .int .i64 (k2 : Int)) rfl (by kernel_rfl) (by kernel_rfl) (by kernel_rfl) (fun _ _ _ h => h) (Or.inl ⟨by rfl, by intro w' hS'; go_simp <;> (first | omega | (rw [IntKind.wrap_i64]; omega) | (rw [IntKind.wrap_u64]; omega) | (rw [IntKind.wrap_u32]; omega) | (rw [Int.tmod_eq_emod_of_nonneg (by omega)]))⟩) hSd ?_
      (try simp only [List.getElem_toArray, List.getElem_cons_succ, List.getElem_cons_zero, Act.put, List.setIfInBounds_toArray, List.set_cons_zero, List.set_cons_succ])
      refine held_stepS (i := 6) (by kernel_rfl) rfl (by rfl) ?_
      go_simp
      refine (HMK.out _).mono ?_
      rintro e w3 ⟨rfl, hb3⟩
      have hb4 : Below w.heap.size w w3 := by have hx := hSd; rw [HS.out] at hx; exact bl3 hx hb3 hx.size
      have hS3 : S w3 := by rw [HS.out]; exact hb4
      refine ⟨hS3, ?_⟩
      (try simp only [List.getElem_toArray, List.getElem_cons_succ, List.getElem_cons_zero, Act.put, List.setIfInBounds_toArray, List.set_cons_zero, List.set_cons_succ])
      refine wpAnyH_take (i := 7) (v := .bool false) rfl (by kernel_rfl) (by kernel_rfl) (by kernel_rfl) (fun _ _ _ h => h) (Or.inl ⟨by rfl, by intro w' hS'; go_simp <;> (first | omega | (rw [IntKind.wrap_i64]; omega) | (rw [IntKind.wrap_u64]; omega) | (rw [IntKind.wrap_u32]; omega) | (rw [Int.tmod_eq_emod_of_nonneg (by omega)]) | rfl)⟩) hS3 ?_
      (try simp only [List.getElem_toArray, List.getElem_cons_succ, List.getElem_cons_zero, Act.put, List.setIfInBounds_toArray, List.set_cons_zero, List.set_cons_succ])
      refine wpAnyH_done (by kernel_rfl) ?_ _
      go_wp2_with fail
      go_roundw
      case rel => exact ⟨i + 1, by omega, by have := HK.out; show Value.int .i64 _ = Value.int .i64 _; congr 1; omega, by go_num, hb4⟩
      case measure => simp [natP]; omega
    · obtain rfl : i = n := by omega
      go_wp2_with fail
      go_ret
      exact ⟨rfl, hb⟩
set_option maxRecDepth 100000 in
set_option maxHeartbeats 2000000 in
theorem markP_any (g c n k : Nat) (cur : Array Value) (w : World) (hn : n ≤ 1048576) (h1 : 1 ≤ k) (hk : k ≤ 4000000) (hg : w.heap[g]? = some (.cells cur 89 (0, 0))) (hcs : 3 * n ≤ cur.size) :
    Calls Try.prog 52 #[.slice (some ⟨g, 0, none⟩) n c, .int .i64 (k : Int)] w fun e w' => (e = .returned (.int .i64 ((k + 3 * n : Nat) : Int)) ∧ MkAt w' g n k) ∧ w.grownBy w' (some g) := by
  have HM : Hid (∀ (k : Nat) (w : World), 1 ≤ k → k ≤ 10000000 → Calls Try.prog 51 #[.int .i64 (k : Int)] w fun e w' => e = .returned (.string (mkT k)) ∧ Below w.heap.size w w') := fun k w h1 h2 => markT_any k w h1 h2
  have HST : Hid (w.grownBy w (some g) ∧ w.heap[g]? = some (.cells cur 89 (0, 0)) ∧ 3 * n ≤ cur.size) := ⟨⟨rfl, rfl, rfl, Nat.le_refl _, fun _ _ _ => rfl⟩, hg, hcs⟩
  clear hg hcs
  go_enter Try.func52, Try.ntmps52
  go_wp2_with fail
  go_loopw [1, 5] (fun x v wr => ∃ (i : Nat) (C : Array Value), i ≤ n ∧ x = .int .i64 ((k + 3 * i : Nat) : Int) ∧ v = .int .i64 (i : Int) ∧ Hid (w.grownBy wr (some g) ∧ wr.heap[g]? = some (.cells C 89 (0, 0)) ∧ 3 * n ≤ C.size) ∧ Hid (∀ j, j < i → C[3 * j]? = some (.int .i64 ((k + 3 * j : Nat) : Int)) ∧ C[3 * j + 1]? = some (.int .i64 ((k + 3 * j + 1 : Nat) : Int)) ∧ C[3 * j + 2]? = some (.string (mkT (k + 3 * j + 2))))) (fun _ v _ => n - natP v)
  case atStart => exact ⟨0, cur, by omega, rfl, rfl, HST, fun j hj => absurd hj (by omega)⟩
  case round =>
    obtain ⟨i, C, hi, rfl, rfl, HW, HC⟩ := hrel
    by_cases hlt : i < n
    · have hltI : (i : Int) < (n : Int) := by omega
      obtain ⟨q, hq⟩ : ∃ q, q = 3 * i := ⟨_, rfl⟩
      obtain ⟨k0, hk0⟩ : ∃ k0, k0 = k + 3 * i := ⟨_, rfl⟩
      obtain ⟨k2, hk2⟩ : ∃ k2, k2 = k0 + 2 := ⟨_, rfl⟩
      have HMK : Hid (∀ w, Calls Try.prog 51 #[.int .i64 (k2 : Int)] w fun e w' => e = .returned (.string (mkT k2)) ∧ Below w.heap.size w w') := fun w => HM.out k2 w (by omega) (by omega)
      have hsz := HW.out.2.2
      have HT : Hid (∀ j, j < i + 1 → (set3 C q (.int .i64 (k0 : Int)) (.int .i64 ((k0 : Int) + 1)) (.string (mkT k2)))[3 * j]? = some (.int .i64 ((k + 3 * j : Nat) : Int)) ∧ (set3 C q (.int .i64 (k0 : Int)) (.int .i64 ((k0 : Int) + 1)) (.string (mkT k2)))[3 * j + 1]? = some (.int .i64 ((k + 3 * j + 1 : Nat) : Int)) ∧ (set3 C q (.int .i64 (k0 : Int)) (.int .i64 ((k0 : Int) + 1)) (.string (mkT k2)))[3 * j + 2]? = some (.string (mkT (k + 3 * j + 2)))) := fun j hj => by
        by_cases hji : j < i
        · rw [set3_low _ _ _ _ _ _ (by omega), set3_low _ _ _ _ _ _ (by omega), set3_low _ _ _ _ _ _ (by omega)]
          exact HC.out j hji
        · obtain rfl : j = i := by omega
          rw [← hq, set3_0 _ _ _ _ _ (by omega), set3_1 _ _ _ _ _ (by omega), set3_2 _ _ _ _ _ (by omega)]
          have e1 : k + q = k0 := by omega
          rw [e1, ← hk2]
          exact ⟨rfl, by congr 2, rfl⟩
      have ei : ((k + 3 * i : Nat) : Int) = (k0 : Int) := by omega
      have ek2 : (k0 : Int) + 1 + 1 = (k2 : Int) := by omega
      have hiq : i * 3 = q := by omega
      have hk0l : k0 ≤ 8000000 := by omega
      have hk2l : k2 ≤ 8000002 := by omega
      have hqs : q + 2 < C.size := by omega
      have HK : Hid (k0 = k + 3 * i ∧ k2 = k0 + 2) := ⟨hk0, hk2⟩
      have hrow := HW.out.2.1
      have x0 : wr.cell? ⟨g, q, none⟩ = some C[q] := (cell_of_row wr _ q _ _ _ hrow).trans (Array.getElem?_eq_getElem (by omega))
      have x1 : wr.cell? ⟨g, q + 1, none⟩ = some C[q + 1] := (cell_of_row wr _ (q + 1) _ _ _ hrow).trans (Array.getElem?_eq_getElem (by omega))
      have z0 := frozen_of_row wr _ q _ _ hrow
      have z1 := frozen_of_row wr _ (q + 1) _ _ hrow
      have hr2 : ((wr.setCell ⟨g, q, none⟩ (.int .i64 (k0 : Int))).setCell ⟨g, q + 1, none⟩ (.int .i64 ((k0 : Int) + 1))).heap[g]? = some (.cells ((C.setIfInBounds q (.int .i64 (k0 : Int))).setIfInBounds (q + 1) (.int .i64 ((k0 : Int) + 1))) 89 (0, 0)) := heap_setCell_same _ _ _ _ _ _ (heap_setCell_same _ _ _ _ _ _ hrow)
      have hg2 : w.grownBy ((wr.setCell ⟨g, q, none⟩ (.int .i64 (k0 : Int))).setCell ⟨g, q + 1, none⟩ (.int .i64 ((k0 : Int) + 1))) (some g) := by
        have hg := HW.out.1
        exact ⟨hg.os, hg.tape, hg.output, by simp; exact hg.size, fun k hk hne => (heap_setCell_other _ _ _ _ (fun e => hne (by rw [e]))).trans ((heap_setCell_other _ _ _ _ (fun e => hne (by rw [e]))).trans (hg.block k hk hne))⟩
      have HR2 : Hid _ := hr2
      have HG2 : Hid _ := hg2
      generalize hT : mkT k2 = T at *
      generalize C[q] = y0 at x0
      generalize C[q + 1] = y1 at x1
      rw [ei]
      clear hq hk0 hk2 ei hT hrow hr2 hg2 HW
      go_wp2_with fail
      refine (HMK.out _).mono ?_
      rintro e w3 ⟨rfl, hb3⟩
      have hrow3 := (hb3.block g (row_ltM HR2.out)).trans HR2.out
      have x2 : w3.cell? ⟨g, q + 2, none⟩ = some C[q + 2] := by
        rw [cell_of_row w3 _ (q + 2) _ _ _ hrow3, Array.getElem?_setIfInBounds_ne (by omega), Array.getElem?_setIfInBounds_ne (by omega)]
        exact Array.getElem?_eq_getElem (by omega)
      have z2 := frozen_of_row w3 _ (q + 2) _ _ hrow3
      have HN : Hid (w.grownBy (w3.setCell ⟨g, q + 2, none⟩ (.string T)) (some g) ∧ (w3.setCell ⟨g, q + 2, none⟩ (.string T)).heap[g]? = some (.cells (set3 C q (.int .i64 (k0 : Int)) (.int .i64 ((k0 : Int) + 1)) (.string T)) 89 (0, 0)) ∧ 3 * n ≤ (set3 C q (.int .i64 (k0 : Int)) (.int .i64 ((k0 : Int) + 1)) (.string T)).size) := by
        refine ⟨?_, heap_setCell_same _ _ _ _ _ _ hrow3, by rw [set3_size]; exact hsz⟩
        have hg := HG2.out
        exact ⟨hb3.os.trans hg.os, hb3.tape.trans hg.tape, hb3.output.trans hg.output, by simp; exact Nat.le_trans hg.size hb3.size, fun k hk hne => (heap_setCell_other _ _ _ _ (fun e => hne (by rw [e]))).trans ((hb3.block k (Nat.lt_of_lt_of_le hk hg.size)).trans (hg.block k hk hne))⟩
      generalize C[q + 2] = y2 at x2
      clear hrow3 hsz hb3 HR2 HG2 x0 x1 z0 z1
      go_wp2_with fail
      go_roundw
      case rel => exact ⟨i + 1, _, by omega, by have := HK.out; show Value.int .i64 _ = Value.int .i64 _; congr 1; omega, by go_num, HN, HT⟩
      case measure => simp [natP]; omega
    · obtain rfl : i = n := by omega
      go_wp2_with fail
      go_ret
      exact ⟨⟨rfl, fun j hj => ⟨(cell_of_row wr _ _ _ _ _ HW.out.2.1).trans (HC.out j hj).1, (cell_of_row wr _ _ _ _ _ HW.out.2.1).trans (HC.out j hj).2.1, (cell_of_row wr _ _ _ _ _ HW.out.2.1).trans (HC.out j hj).2.2⟩⟩, HW.out.1⟩
end Go.Proofs.Ytpeddaljgmkomaa
