/-
  Several texts of this seat as one: Gear, CutMath, Shp, CutC, RgT, CutI, CutP, ChkMath, SameT.
-/
import Derived.Test.YtbmcjoaigajjkaaDoorRows
import Derived.Below
import Derived.WalkKit
import Derived.WalkSpells
import Derived.Test.YtbmcjoaigajjkaaDoorIn
import Derived.RangeFuncNested
import Derived.RangeFuncBound
import Derived.RangeFuncCalls
import Derived.RangeFuncLeaves
import Derived.RangeFuncBox
import Derived.Shelf.Abstract
import Derived.Shelf.RegionOpen
import Derived.OwnWalkIn
import Derived.TacticsInMore
import Derived.LoopNIn
import Derived.LoopIn
import Derived.Maps.AppendAt
import Derived.BigRegion
import Derived.BigQuiet

/-!   The number of a byte that a hash takes: the code's and the specification's. -/
namespace Go.Proofs.YtbmcjoaigajjkaaDoor
open Go.RowKit
set_option linter.unusedVariables false
def gz0 (x : Int) : Int := IntKind.u64.wrap (IntKind.u64.wrap (IntKind.u64.wrap x * 11400714819323198485) + 7046029254386353131)
def gz1 (z : Int) : Int := IntKind.u64.wrap (bits BinOp.xor IntKind.u64 z (z / 1073741824) * 13787848793156543929)
def gz2 (z : Int) : Int := IntKind.u64.wrap (bits BinOp.xor IntKind.u64 z (z / 134217728) * 10723151780598845931)
def gz3 (z : Int) : Int := bits BinOp.xor IntKind.u64 z (z / 2147483648)
def gearI (x : Int) : Int := gz3 (gz2 (gz1 (gz0 x)))
end Go.Proofs.YtbmcjoaigajjkaaDoor

/-!   Cuts as plain mathematics. -/
namespace Go.Proofs.YtbmcjoaigajjkaaDoor
set_option linter.unusedVariables false
def gearN (x : Nat) : Nat := (gearI (x : Int)).toNat
theorem wrap_nat (z : Int) : ∃ m : Nat, IntKind.u64.wrap z = (m : Int) ∧ m < 18446744073709551616 := by
  refine ⟨(IntKind.u64.wrap z).toNat, ?_, ?_⟩ <;> rw [IntKind.wrap_u64] <;> omega
theorem xor_shift (m k : Nat) (hm : m < 18446744073709551616) : bits BinOp.xor IntKind.u64 (m : Int) ((m : Int) / (k : Int)) = ((m ^^^ m / k : Nat) : Int) ∧ m ^^^ m / k < 18446744073709551616 := by
  have hk : m / k < 18446744073709551616 := Nat.lt_of_le_of_lt (Nat.div_le_self ..) hm
  have e : (m : Int) / (k : Int) = ((m / k : Nat) : Int) := by simp
  rw [e, bits_xor_u64_nat m (m / k) hm hk]
  exact ⟨rfl, Nat.xor_lt_two_pow (n := 64) hm hk⟩
theorem gear_nat (x : Nat) : gearI (x : Int) = (gearN x : Int) ∧ gearN x < 18446744073709551616 := by
  have key : ∃ m : Nat, gearI (x : Int) = (m : Int) ∧ m < 18446744073709551616 := by
    unfold gearI
    obtain ⟨a, ha, ha2⟩ := wrap_nat (IntKind.u64.wrap (IntKind.u64.wrap (x : Int) * 11400714819323198485) + 7046029254386353131)
    obtain ⟨b, hb, hb2⟩ := wrap_nat (bits BinOp.xor IntKind.u64 (a : Int) ((a : Int) / 1073741824) * 13787848793156543929)
    obtain ⟨c, hc, hc2⟩ := wrap_nat (bits BinOp.xor IntKind.u64 (b : Int) ((b : Int) / 134217728) * 10723151780598845931)
    have e0 : gz0 (x : Int) = (a : Int) := ha
    have e1 : gz1 (a : Int) = (b : Int) := hb
    have e2 : gz2 (b : Int) = (c : Int) := hc
    rw [e0, e1, e2]
    exact ⟨c ^^^ c / 2147483648, (xor_shift c 2147483648 hc2).1, (xor_shift c 2147483648 hc2).2⟩
  obtain ⟨m, h1, h2⟩ := key
  have : gearN x = m := by unfold gearN; rw [h1]; rfl
  rw [this]; exact ⟨h1, h2⟩
def hashN (h x : Nat) : Nat := (2 * h + gearN x) % 18446744073709551616
theorem hashN_lt (h x : Nat) : hashN h x < 18446744073709551616 := Nat.mod_lt _ (by decide)
def endsN (L B M n h : Nat) : Prop := M ≤ n ∨ (L ≤ n ∧ h / 2 ^ (64 - B) = 0)
instance (L B M n h : Nat) : Decidable (endsN L B M n h) := by unfold endsN; infer_instance
def cutL (L B M : Nat) (at' n h : Nat) : List Nat → List Nat
  | [] => []
  | x :: l => if l = [] ∨ endsN L B M (n + 1) (hashN h x) then (at' + 1) :: cutL L B M (at' + 1) 0 0 l else cutL L B M (at' + 1) (n + 1) (hashN h x) l
variable {L B M : Nat}
theorem cutL_cut {a n h x : Nat} {l : List Nat} (hc : l = [] ∨ endsN L B M (n + 1) (hashN h x)) : cutL L B M a n h (x :: l) = (a + 1) :: cutL L B M (a + 1) 0 0 l := by
  rw [cutL, if_pos hc]
theorem cutL_on {a n h x : Nat} {l : List Nat} (hc : ¬ (l = [] ∨ endsN L B M (n + 1) (hashN h x))) : cutL L B M a n h (x :: l) = cutL L B M (a + 1) (n + 1) (hashN h x) l := by
  rw [cutL, if_neg hc]
theorem cutL_len (a n h : Nat) (l : List Nat) : (cutL L B M a n h l).length ≤ l.length := by
  induction l generalizing a n h with
  | nil => simp [cutL]
  | cons x l ih =>
    by_cases hc : l = [] ∨ endsN L B M (n + 1) (hashN h x)
    · rw [cutL_cut hc]; have := ih (a + 1) 0 0; simp; omega
    · rw [cutL_on hc]; have := ih (a + 1) (n + 1) (hashN h x); simp; omega
theorem cutL_in (a n h : Nat) (l : List Nat) : ∀ c ∈ cutL L B M a n h l, a < c ∧ c ≤ a + l.length := by
  induction l generalizing a n h with
  | nil => intro c hc; simp [cutL] at hc
  | cons x l ih =>
    intro c hc
    by_cases hq : l = [] ∨ endsN L B M (n + 1) (hashN h x)
    · rw [cutL_cut hq] at hc
      rcases List.mem_cons.1 hc with rfl | hc
      · simp
      · have := ih _ _ _ c hc; simp; omega
    · rw [cutL_on hq] at hc
      have := ih _ _ _ c hc; simp; omega
/-- the cuts do not ask where the bytes lie -/
theorem cutL_shift (d a n h : Nat) (l : List Nat) : cutL L B M (a + d) n h l = (cutL L B M a n h l).map (· + d) := by
  induction l generalizing a n h with
  | nil => rfl
  | cons x l ih =>
    have e : a + d + 1 = a + 1 + d := by omega
    by_cases hq : l = [] ∨ endsN L B M (n + 1) (hashN h x)
    · rw [cutL_cut hq, cutL_cut hq, e, ih]; rfl
    · rw [cutL_on hq, cutL_on hq, e, ih]
/-- behind a cut the cuts are those of what stands behind it -/
theorem cutL_behind (a n h : Nat) (l pre post : List Nat) (c : Nat) (he : cutL L B M a n h l = pre ++ c :: post) : a < c ∧ c ≤ a + l.length ∧ post = cutL L B M c 0 0 (l.drop (c - a)) := by
  induction l generalizing a n h pre with
  | nil => simp [cutL] at he
  | cons x l ih =>
    by_cases hq : l = [] ∨ endsN L B M (n + 1) (hashN h x)
    · rw [cutL_cut hq] at he
      cases pre with
      | nil =>
        simp only [List.nil_append, List.cons.injEq] at he
        obtain ⟨rfl, he⟩ := he
        refine ⟨by omega, by simp, ?_⟩
        have : a + 1 - a = 1 := by omega
        rw [this, ← he]; rfl
      | cons y pre =>
        simp only [List.cons_append, List.cons.injEq] at he
        obtain ⟨h1, h2, h3⟩ := ih _ _ _ _ he.2
        refine ⟨by omega, by simp; omega, ?_⟩
        have : c - a = (c - (a + 1)) + 1 := by omega
        rw [this, h3]; rfl
    · rw [cutL_on hq] at he
      obtain ⟨h1, h2, h3⟩ := ih _ _ _ _ he
      refine ⟨by omega, by simp; omega, ?_⟩
      have : c - a = (c - (a + 1)) + 1 := by omega
      rw [this, h3]; rfl
/-- the last cut is the end -/
theorem cutL_last (a n h : Nat) (l : List Nat) (hl : l ≠ []) : (cutL L B M a n h l).getLast? = some (a + l.length) := by
  induction l generalizing a n h with
  | nil => exact absurd rfl hl
  | cons x l ih =>
    by_cases hq : l = [] ∨ endsN L B M (n + 1) (hashN h x)
    · rw [cutL_cut hq]
      by_cases hn : l = []
      · subst hn; simp [cutL]
      · have := ih (a + 1) 0 0 hn
        rw [List.getLast?_cons, this]; simp; omega
    · rw [cutL_on hq]
      have hn : l ≠ [] := fun e => hq (.inl e)
      rw [ih _ _ _ hn]; simp; omega
end Go.Proofs.YtbmcjoaigajjkaaDoor

/-!   Whether a shape is right: the code's and the specification's. -/
namespace Go.Proofs.YtbmcjoaigajjkaaDoor
open Go.RowKit
set_option linter.unusedVariables false
def shpP (l b m : Int) : Prop := (1 ≤ l ∧ l ≤ 1000) ∧ (1 ≤ b ∧ b ≤ 12) ∧ (l ≤ m ∧ m ≤ 4000)
def shpV (l b m : Int) : Value := .agg #[.int .i64 l, .int .i64 b, .int .i64 m]
set_option maxRecDepth 100000 in
set_option maxHeartbeats 2000000 in
theorem shp_yes (l b m : Int) (w : World) (hp : shpP l b m) :
    Calls Tryd.prog 41 #[shpV l b m] w fun e w' => e = .returned (.bool true) ∧ Below w.heap.size w w' := by
  unfold shpV
  obtain ⟨⟨h1, h2⟩, ⟨h3, h4⟩, h5, h6⟩ := hp
  go_enter Tryd.func41, Tryd.ntmps41
  go_wp2_with fail
  go_ret
  exact ⟨rfl, (Below.refl _ _).alloc (Nat.le_refl _) _⟩
set_option maxRecDepth 100000 in
set_option maxHeartbeats 4000000 in
theorem shp_no (l b m : Int) (w : World) (hp : ¬ shpP l b m) :
    Calls Tryd.prog 41 #[shpV l b m] w fun e w' => e = .returned (.bool false) ∧ Below w.heap.size w w' := by
  unfold shpV
  unfold shpP at hp
  have go : (¬ 1 ≤ l) ∨ (1 ≤ l ∧ ¬ l ≤ 1000) ∨ (1 ≤ l ∧ l ≤ 1000 ∧ ¬ 1 ≤ b) ∨ (1 ≤ l ∧ l ≤ 1000 ∧ 1 ≤ b ∧ ¬ b ≤ 12) ∨ (1 ≤ l ∧ l ≤ 1000 ∧ 1 ≤ b ∧ b ≤ 12 ∧ ¬ l ≤ m) ∨ (1 ≤ l ∧ l ≤ 1000 ∧ 1 ≤ b ∧ b ≤ 12 ∧ l ≤ m ∧ ¬ m ≤ 4000) := by omega
  clear hp
  rcases go with h1 | ⟨h1, h2⟩ | ⟨h1, h2, h3⟩ | ⟨h1, h2, h3, h4⟩ | ⟨h1, h2, h3, h4, h5⟩ | ⟨h1, h2, h3, h4, h5, h6⟩
  all_goals
    go_enter Tryd.func41, Tryd.ntmps41
    go_wp2_with fail
    go_ret
    exact ⟨rfl, (Below.refl _ _).alloc (Nat.le_refl _) _⟩
set_option maxRecDepth 100000 in
set_option maxHeartbeats 2000000 in
theorem sshp_yes (l b m : Int) (w : World) (hp : shpP l b m) :
    Calls Tryd.prog 34 #[shpV l b m] w fun e w' => e = .returned (.bool true) ∧ Below w.heap.size w w' := by
  unfold shpV
  obtain ⟨⟨h1, h2⟩, ⟨h3, h4⟩, h5, h6⟩ := hp
  have HA : Hid (∀ w, Calls Tryd.prog 28 #[.int .i64 l, .int .i64 1, .int .i64 1000] w fun e w' => e = .returned (.bool true) ∧ w' = w) := fun w => in_yes l 1 1000 w h1 h2
  have HB : Hid (∀ w, Calls Tryd.prog 28 #[.int .i64 b, .int .i64 1, .int .i64 12] w fun e w' => e = .returned (.bool true) ∧ w' = w) := fun w => in_yes b 1 12 w h3 h4
  have HC : Hid (∀ w, Calls Tryd.prog 28 #[.int .i64 m, .int .i64 l, .int .i64 4000] w fun e w' => e = .returned (.bool true) ∧ w' = w) := fun w => in_yes m l 4000 w h5 h6
  clear h1 h2 h3 h4 h5 h6
  go_enter Tryd.func34, Tryd.ntmps34
  go_wp2_with fail
  refine (HA.out _).mono ?_
  rintro e w' ⟨rfl, hw⟩
  subst w'
  go_wp2_with fail
  refine (HB.out _).mono ?_
  rintro e w' ⟨rfl, hw⟩
  subst w'
  go_wp2_with fail
  refine (HC.out _).mono ?_
  rintro e w' ⟨rfl, hw⟩
  subst w'
  go_wp2_with fail
  go_ret
  exact ⟨rfl, (Below.refl _ _).alloc (Nat.le_refl _) _⟩
set_option maxRecDepth 100000 in
set_option maxHeartbeats 2000000 in
theorem sshp_no (l b m : Int) (w : World) (hp : ¬ shpP l b m) :
    Calls Tryd.prog 34 #[shpV l b m] w fun e w' => e = .returned (.bool false) ∧ Below w.heap.size w w' := by
  unfold shpV
  unfold shpP at hp
  by_cases h1 : 1 ≤ l ∧ l ≤ 1000
  · have HA : Hid (∀ w, Calls Tryd.prog 28 #[.int .i64 l, .int .i64 1, .int .i64 1000] w fun e w' => e = .returned (.bool true) ∧ w' = w) := fun w => in_yes l 1 1000 w h1.1 h1.2
    by_cases h2 : 1 ≤ b ∧ b ≤ 12
    · have HB : Hid (∀ w, Calls Tryd.prog 28 #[.int .i64 b, .int .i64 1, .int .i64 12] w fun e w' => e = .returned (.bool true) ∧ w' = w) := fun w => in_yes b 1 12 w h2.1 h2.2
      have HC : Hid (∀ w, Calls Tryd.prog 28 #[.int .i64 m, .int .i64 l, .int .i64 4000] w fun e w' => e = .returned (.bool false) ∧ w' = w) := fun w => in_no m l 4000 w (by omega)
      clear hp h1 h2
      go_enter Tryd.func34, Tryd.ntmps34
      go_wp2_with fail
      refine (HA.out _).mono ?_
      rintro e w' ⟨rfl, hw⟩
      subst w'
      go_wp2_with fail
      refine (HB.out _).mono ?_
      rintro e w' ⟨rfl, hw⟩
      subst w'
      go_wp2_with fail
      refine (HC.out _).mono ?_
      rintro e w' ⟨rfl, hw⟩
      subst w'
      go_wp2_with fail
      go_ret
      exact ⟨rfl, (Below.refl _ _).alloc (Nat.le_refl _) _⟩
    · have HB : Hid (∀ w, Calls Tryd.prog 28 #[.int .i64 b, .int .i64 1, .int .i64 12] w fun e w' => e = .returned (.bool false) ∧ w' = w) := fun w => in_no b 1 12 w h2
      clear hp h1 h2
      go_enter Tryd.func34, Tryd.ntmps34
      go_wp2_with fail
      refine (HA.out _).mono ?_
      rintro e w' ⟨rfl, hw⟩
      subst w'
      go_wp2_with fail
      refine (HB.out _).mono ?_
      rintro e w' ⟨rfl, hw⟩
      subst w'
      go_wp2_with fail
      go_ret
      exact ⟨rfl, (Below.refl _ _).alloc (Nat.le_refl _) _⟩
  · have HA : Hid (∀ w, Calls Tryd.prog 28 #[.int .i64 l, .int .i64 1, .int .i64 1000] w fun e w' => e = .returned (.bool false) ∧ w' = w) := fun w => in_no l 1 1000 w h1
    clear hp h1
    go_enter Tryd.func34, Tryd.ntmps34
    go_wp2_with fail
    refine (HA.out _).mono ?_
    rintro e w' ⟨rfl, hw⟩
    subst w'
    go_wp2_with fail
    go_ret
    exact ⟨rfl, (Below.refl _ _).alloc (Nat.le_refl _) _⟩
end Go.Proofs.YtbmcjoaigajjkaaDoor

/-!   Cuts: the code's small functions. -/
namespace Go.Proofs.YtbmcjoaigajjkaaDoor
open Go.RowKit
set_option linter.unusedVariables false
theorem shr_nat (h k : Nat) : ((h : Int) / 2 ^ k == 0) = decide (h / 2 ^ k = 0) := by
  have e : (h : Int) / 2 ^ k = ((h / 2 ^ k : Nat) : Int) := by simp
  rw [e]
  by_cases c : h / 2 ^ k = 0
  · rw [c]; rfl
  · rw [decide_eq_false c]; exact beq_eq_false_iff_ne.2 (by omega)
def endsB (L B M n h : Nat) : Bool := decide (n = M ∨ (L ≤ n ∧ h / 2 ^ (64 - B) = 0))
theorem endsB_iff {L B M n h : Nat} (hn : n ≤ M) : endsB L B M n h = true ↔ endsN L B M n h := by
  unfold endsB endsN
  rw [decide_eq_true_iff]
  constructor
  · rintro (h | h)
    · exact .inl (by omega)
    · exact .inr h
  · rintro (h | h)
    · exact .inl (by omega)
    · exact .inr h
end Go.Proofs.YtbmcjoaigajjkaaDoor

/-!   A loop over an iterator whose body is told how what it is handed stands to what came before; its body never leaves the loop. -/
namespace Go.Proofs.YtbmcjoaigajjkaaDoor
open Go.RowKit
set_option linter.unusedVariables false
/-- what the iterator owes: over a list that is known, each item told with what came ahead of it -/
def Tells (P : Program) (m gf : Nat) (lb : Array Value) (enc : Nat → Value) (Kp : World → World → Prop) (tot : List Nat) (w0 : World) : Prop :=
  ∀ (l : Nat) (J : List Nat → World → Prop) (W : World), Below w0.heap.size w0 W → (∀ t A B, J t A → A.grownBy B none → J t B) →
    (∀ pre x W1, J pre W1 → pre ++ [x] <+: tot → YieldAt Fence.wide (m - 1) P l #[enc x] W1 fun e W' => e = .returned (.bool true) ∧ J (pre ++ [x]) W' ∧ Kp W1 W') →
    J [] W → CallsIn Fence.wide m P gf (#[.func (.yield l) #[] #[]] ++ lb) W fun e W' => (∃ v, e = .returned v) ∧ J tot W'
/-- how the body may end: by itself -/
def onlyOn (B : Nat) (Kp : World → World → Prop) (I : List Nat → World → Prop) (xs : List Nat) (W : World) (e : Exit) (_ : Act) (W' : World) : Prop :=
  e = .normal ∧ KeepsFrom B W W' ∧ Kp W W' ∧ I xs W'
theorem range_told {P : Program} {n gf : Nat} {lb : Array Value} {g : Operand} {p0 : Tmp} {assign body : Code} {Q : Exit → Act → World → Prop} {a : Act} {w : World} {Kp : World → World → Prop} {tot : List Nat} {enc : Nat → Value}
    (h1 : 1 ≤ n) (hg : a.eval g = .func (.func gf) #[] lb) (eg : ∀ args w, (callFunc gf args).run P w = .ok (.enter gf args) w) (hseq : Tells P (n - 1) gf lb enc Kp tot w)
    (hKt : ∀ {A B C : World}, Kp A B → Kp B C → Kp A C) (hKb : ∀ (W : World) (l : Nat) (o o' : Obj), w.heap.size ≤ l → W.heap[l]? = some o → o.isCells = false → o.isWalk = false → Kp W (W.putObj l o'))
    (I : List Nat → World → Prop) (hI : OwnFrom w.heap.size I) (h0 : I [] w) (a₁ : Nat → Act)
    (hassign : ∀ (l : Nat) (x : Nat) (W : World) (K : Act → World → Prop), K (a₁ x) W → assign.wpIn (Fence.wide.inRound l) (n - 1 - 1) P (Exit.then K (fun _ _ _ => False)) { tmps := a.tmps.setIfInBounds p0 (enc x), defers := [] } W)
    (hbody : ∀ (l : Nat) (pre : List Nat) (x : Nat) (W : World), I pre W → pre ++ [x] <+: tot → body.wpIn (Fence.wide.inRound l) (n - 1 - 1) P (onlyOn w.heap.size Kp I (pre ++ [x]) W) (a₁ x) W)
    (hdone : ∀ (D : Nat) (W : World), w.heap.size ≤ D → I tot W → W.heap[D]? = some (.deferred (some [])) → Q .normal { a with defers := { target := .collected D, args := #[] } :: a.defers } W) :
    (Code.rangeFunc g #[p0] assign body).wpIn Fence.wide n P Q a w := by
  refine wpIn_rangeFunc fun fn hfn => ?_
  let R : LoopState → Loop := fun st => { state := st, pending := none, fn := fn, tmps := a.tmps, params := #[p0], assign := assign, body := body, defers := w.heap.size }
  let W1 : World := (w.alloc (.deferred (some []))).alloc (.loop (R .ready))
  have hloop : W1.heap[w.heap.size + 1]? = some (.loop (R .ready)) := by
    have h := World.alloc_heap_new (w.alloc (.deferred (some []))) (.loop (R .ready))
    rwa [World.size_alloc] at h
  have hdef : W1.heap[w.heap.size]? = some (.deferred (some [])) := (Below.heap_alloc _ _ _ (by simp)).trans (World.alloc_heap_new w _)
  have hbel : Below w.heap.size w W1 := ((Below.refl _ w).alloc (Nat.le_refl _) _).alloc (by simp) _
  have hne : w.heap.size ≠ w.heap.size + 1 := by omega
  let J : List Nat → World → Prop := fun pre W => I pre W ∧ W.heap[w.heap.size + 1]? = some (.loop (R .ready)) ∧ W.heap[w.heap.size]? = some (.deferred (some []))
  have round : ∀ pre x W, J pre W → pre ++ [x] <+: tot → YieldAt Fence.wide (n - 1 - 1) P (w.heap.size + 1) #[enc x] W fun e W' => e = .returned (.bool true) ∧ J (pre ++ [x]) W' ∧ Kp W W' := by
    rintro pre x W ⟨hi, hl, hd⟩ ht
    have hlt := (Array.getElem?_eq_some_iff.1 hl).1
    have step1 : Kp W (W.putObj (w.heap.size + 1) (.loop (R .busy))) := hKb _ _ _ _ (by omega) hl rfl rfl
    have busy : (W.putObj (w.heap.size + 1) (.loop (R .busy))).heap[w.heap.size + 1]? = some (.loop (R .busy)) := World.putObj_heap_same hlt
    have dbusy : (W.putObj (w.heap.size + 1) (.loop (R .busy))).heap[w.heap.size]? = some (.deferred (some [])) := (World.putObj_heap_other hne).trans hd
    have hy : (Instr.yield (w.heap.size + 1) #[enc x]).run P W = .ok (.round (w.heap.size + 1) fn (a.tmps.setIfInBounds p0 (enc x)) assign body) W := by
      have h := run_yield (P := P) (args := #[enc x]) hl rfl
      simpa [R] using h
    refine ⟨fn, _, assign, body, hy, roundIn_of_wpIn hfn ?_⟩
    refine hassign (w.heap.size + 1) x W _ ⟨_, run_beginRound hl rfl, ?_⟩
    refine wpIn_mono (hbody _ pre x _ (hI.putObj _ hi (by omega) hl rfl) ht) ?_
    rintro e a3 W3 ⟨rfl, hk, hp, hi3⟩
    have l3 := hk.same _ _ (by omega) busy rfl
    have d3 := hk.same _ _ (Nat.le_refl _) dbusy rfl
    refine ⟨_, _, run_endRound none l3, rfl, ⟨hI.putObj _ hi3 (by omega) l3 rfl, World.putObj_heap_same (Array.getElem?_eq_some_iff.1 l3).1, (World.putObj_heap_other hne).trans d3⟩, hKt (hKt step1 hp) (hKb _ _ _ _ (by omega) l3 rfl rfl)⟩
  have keep : ∀ t A B, J t A → A.grownBy B none → J t B := fun t A B h hgr =>
    ⟨hI t A B none h.1 hgr (fun r e => by cases e), (hgr.block _ (Array.getElem?_eq_some_iff.1 h.2.1).1 (by simp)).trans h.2.1, (hgr.block _ (Array.getElem?_eq_some_iff.1 h.2.2).1 (by simp)).trans h.2.2⟩
  refine ⟨w.heap.size + 1, [{ target := .collected w.heap.size, args := #[] }], W1, { target := .fn (.func gf) lb, args := #[.func (.yield (w.heap.size + 1)) #[] #[]] }, W1, gf, #[.func (.yield (w.heap.size + 1)) #[] #[]] ++ lb, W1, ?_, ?_, ?_, ?_, fun h => (by cases h), ?_⟩
  · exact run_enterLoop_outer fn a.tmps #[p0] assign body
  · simp only [resolve, hg]
    simp [go_sem]
  · intro f' _; trivial
  · simp [invoke, go_sem, eg]
  · refine (hseq (w.heap.size + 1) J W1 hbel keep round ⟨hI.alloc _ (hI.alloc _ h0), hloop, hdef⟩).mono ?_
    rintro e W2 ⟨⟨v, rfl⟩, hi, hl, hd⟩
    exact ⟨none, _, run_endLoop hl (by intro c; cases c), hdone _ _ (Nat.le_refl _) (hI.putObj _ hi (by omega) hl rfl) ((World.putObj_heap_other hne).trans hd)⟩
end Go.Proofs.YtbmcjoaigajjkaaDoor

/-!   Cuts: the iterator that tells them. -/
namespace Go.Proofs.YtbmcjoaigajjkaaDoor
open Go.RowKit Go.Shelf
attribute [local go_sem] Oper.semAt_some
set_option linter.unusedVariables false
/-- a text's bytes as numbers -/
def lst (s : ByteArray) : List Nat := s.data.toList.map (·.toNat)
theorem lst_len (s : ByteArray) : (lst s).length = s.size := by simp [lst]
theorem lst_drop (s : ByteArray) (k : Nat) (h : k < s.size) : (lst s).drop k = s[k].toNat :: (lst s).drop (k + 1) := by
  have hk : k < (lst s).length := by rw [lst_len]; exact h
  rw [List.drop_eq_getElem_cons hk]
  congr 1
  simp [lst]; rfl
theorem lst_end (s : ByteArray) (k : Nat) (h : k < s.size) : ((lst s).drop (k + 1) = []) ↔ k + 1 = s.size := by
  rw [List.drop_eq_nil_iff, lst_len]; omega
/-- what a round that goes on keeps: the two boxes -/
structure Kq (b p : Nat) (W W' : World) : Prop where
  one : W'.heap[b]? = W.heap[b]?
  two : W'.heap[p]? = W.heap[p]?
theorem Kq.refl (b p : Nat) (W : World) : Kq b p W W := ⟨rfl, rfl⟩
theorem Kq.trans {b p : Nat} {A B C : World} (h : Kq b p A B) (k : Kq b p B C) : Kq b p A C := ⟨k.one.trans h.one, k.two.trans h.two⟩
theorem lt_of_row {W : World} {b : Nat} {o : Obj} (h : W.heap[b]? = some o) : b < W.heap.size := (Array.getElem?_eq_some_iff.1 h).1
def natOf : Value → Nat
  | .int _ i => i.toNat
  | _ => 0
end Go.Proofs.YtbmcjoaigajjkaaDoor

/-!   Cuts of the code. -/
namespace Go.Proofs.YtbmcjoaigajjkaaDoor
open Go.RowKit Go.Shelf
attribute [local go_sem] Oper.semAt_some
set_option linter.unusedVariables false
theorem Tryd.infI : (Tryd.prog.info? 2).map (fun i => (i.zero, i.size, i.bytes)) = some (some (.int .i64 0), 1, 8) := by kernel_rfl
def cutC (l : List Nat) : List Value := l.map fun (c : Nat) => Value.int .i64 (c : Int)
theorem row_apart {w : World} {B n g0 : Nat} {e t : TypeId} {z : Nat} {v : Value} {xs : List Value} {cs : Array Value} {m : Nat × Nat} (hte : t ≠ e) (h : w.ownsRow B e z v n xs) (hb : w.heap[g0]? = some (.cells cs t m)) : some g0 ≠ v.ownBlock := by
  obtain ⟨hl, ⟨h0, hn⟩ | ⟨g, cap, cur, h1, h2, h3, _⟩⟩ := h
  · subst h0; intro c; cases c
  · subst h1
    intro c
    have c : some g0 = some g := c
    injection c with c
    subst c
    rw [h3] at hb
    cases hb
    exact hte rfl
theorem row_own {β : Type} (B : Nat) (o : Obj) (ho : o.isCells = true) : Own (fun (_ : β) W => W.heap[B]? = some o) := fun s X Y row hs hg hrow =>
  (hg.block B (lt_of_row hs) (fun e' => by obtain ⟨o', h1, h2⟩ := hrow B e'.symm; rw [hs] at h1; cases h1; rw [ho] at h2; cases h2)).trans hs
end Go.Proofs.YtbmcjoaigajjkaaDoor

/-!   Chunks as plain mathematics. -/
namespace Go.Proofs.YtbmcjoaigajjkaaDoor
set_option linter.unusedVariables false
def chkL (s : ByteArray) : Nat → List Nat → List ByteArray
  | _, [] => []
  | f, c :: l => s.extract f c :: chkL s c l
def lastC : Nat → List Nat → Nat
  | f, [] => f
  | _, c :: l => lastC c l
def chkC (l : List ByteArray) : List Value := l.map Value.string
theorem chkL_len (s : ByteArray) (f : Nat) (l : List Nat) : (chkL s f l).length = l.length := by
  induction l generalizing f with
  | nil => rfl
  | cons c l ih => simp [chkL, ih]
theorem lastC_snoc (f : Nat) (l : List Nat) (x : Nat) : lastC f (l ++ [x]) = x := by
  induction l generalizing f with
  | nil => rfl
  | cons c l ih => exact ih c
theorem chkL_snoc (s : ByteArray) (f : Nat) (l : List Nat) (x : Nat) : chkL s f (l ++ [x]) = chkL s f l ++ [s.extract (lastC f l) x] := by
  induction l generalizing f with
  | nil => rfl
  | cons c l ih => show s.extract f c :: chkL s c (l ++ [x]) = _; rw [ih]; rfl
variable {L B M : Nat}
/-- each cut stands behind the one ahead, and within the text -/
theorem cut_order {l pre : List Nat} {x : Nat} (h : pre ++ [x] <+: cutL L B M 0 0 0 l) : lastC 0 pre < x ∧ x ≤ l.length := by
  obtain ⟨post, he⟩ := h
  have hx : x ∈ cutL L B M 0 0 0 l := by rw [← he]; simp
  have h1 := cutL_in 0 0 0 l x hx
  refine ⟨?_, by omega⟩
  rcases List.eq_nil_or_concat pre with rfl | ⟨pre', c, rfl⟩
  · exact h1.1
  · have e : List.concat pre' c = pre' ++ [c] := by simp
    rw [e] at he ⊢
    rw [lastC_snoc]
    have he' : cutL L B M 0 0 0 l = pre' ++ c :: (x :: post) := by rw [← he]; simp
    obtain ⟨_, _, h3⟩ := cutL_behind 0 0 0 l pre' (x :: post) c he'
    have hx2 : x ∈ cutL L B M c 0 0 (l.drop (c - 0)) := by rw [← h3]; simp
    exact (cutL_in _ _ _ _ x hx2).1
end Go.Proofs.YtbmcjoaigajjkaaDoor

/-!   Whether two lists of texts, or of numbers, are the same: the laws' own ways to ask. -/
namespace Go.Proofs.YtbmcjoaigajjkaaDoor
open Go.RowKit
set_option linter.unusedVariables false
set_option linter.unusedSimpArgs false
set_option maxRecDepth 100000 in
theorem sameT_zero (a b : Option Addr) (c d : Nat) (w : World) :
    Calls Tryd.prog 8 #[.slice a 0 c, .slice b 0 d] w fun e w' => e = .returned (.bool true) ∧ Below w.heap.size w w' := by
  go_enter Tryd.func8, Tryd.ntmps8
  go_wp2_with fail
  refine wp_loop_rounds 1 ?_
  rw [rounds_succ]
  go_wp2_with fail
  go_ret
  exact ⟨rfl, Below.refl _ _⟩
set_option maxRecDepth 100000 in
set_option maxHeartbeats 1000000 in
theorem sameT_any (g h o c d n : Nat) (xs : List ByteArray) (w : World) (hn : n ≤ 40000) (ho : o ≤ 40000) (hx : xs.length = n)
    (hg : ∀ j v, (chkC xs)[j]? = some v → w.cell? ⟨g, j, none⟩ = some v) (hh : ∀ j v, (chkC xs)[j]? = some v → w.cell? ⟨h, o + j, none⟩ = some v) :
    Calls Tryd.prog 8 #[.slice (some ⟨g, 0, none⟩) n c, .slice (some ⟨h, o, none⟩) n d] w fun e w' => e = .returned (.bool true) ∧ Below w.heap.size w w' := by
  have HG : Hid (∀ j, j < n → ∃ x : ByteArray, w.cell? ⟨g, j, none⟩ = some (.string x) ∧ w.cell? ⟨h, o + j, none⟩ = some (.string x)) := fun j hj => by
    have e : (chkC xs)[j]? = some (.string (xs[j]'(by omega))) := by simp [chkC, hx, hj]
    exact ⟨_, hg j _ e, hh j _ e⟩
  clear hg hh hx
  go_enter Tryd.func8, Tryd.ntmps8
  go_wp2_with fail
  go_loopw [5] (fun v wr => ∃ i : Nat, i ≤ n ∧ v = .int .i64 (i : Int) ∧ Below w.heap.size w wr ∧ wr.heap = w.heap) (fun v _ => n - natOf v)
  case atStart => exact ⟨0, by omega, rfl, Below.refl _ _, rfl⟩
  case round =>
    obtain ⟨i, hi, rfl, hb, hp⟩ := hrel
    by_cases hlt : i < n
    · have hltI : (i : Int) < (n : Int) := by omega
      obtain ⟨x, x0, x1⟩ := HG.out i hlt
      have e : ∀ a, wr.cell? a = w.cell? a := fun a => by simp [World.cell?, hp]
      rw [← e] at x0 x1
      have HB : Hid (Below w.heap.size w wr ∧ wr.heap = w.heap) := ⟨hb, hp⟩
      clear e hb hp
      go_wp2_with fail
      go_region
      go_wp2_with fail
      exact ⟨⟨i + 1, by omega, by go_num, HB.out.1.drew, HB.out.2⟩, by simp [natOf]; omega⟩
    · obtain rfl : i = n := by omega
      go_wp2_with fail
      go_ret
      exact ⟨rfl, hb⟩
end Go.Proofs.YtbmcjoaigajjkaaDoor
