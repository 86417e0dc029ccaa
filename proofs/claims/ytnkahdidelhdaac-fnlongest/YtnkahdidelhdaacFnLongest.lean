/-
  What is told as the longest stands there, and goes no further, and nothing nearer is as long: at every code that is drawn from.
-/
import Derived.Test.YtnkahdidelhdaacRows
import Derived.Test.YtnkahdidelhdaacLonL
import Derived.Test.YtnkahdidelhdaacOff
import Derived.Test.YtnkahdidelhdaacBig
import Derived.BigQuiet
import Derived.WalkKit
import Derived.ProofKit
import Derived.OpenShut
import Derived.ShutString
import Derived.ChangeOld
import Derived.Below
namespace Go.Proofs.Ytnkahdidelhdaac.fnLongest
open Go.ChangeShapes Go.WideShapes Go.ChangeAt Go.RowKit
open Go.ChangeMaps (open_string shut_string)
set_option linter.unusedVariables false

theorem own : ownKnob Try.prog.godebug = none := by kernel_rfl
theorem laidOut : laidOutB Try.prog = true := by kernel_rfl

/-- WHAT THE WALK IS TOLD OF A SLICE OF INTEGERS THAT CAME IN: it is nil; or it leads to a row of 'cap' cells, the numbers 'zs' (the first 'len' are its elements, the rest its spare room), each fitting its kind. -/
def IsRow (k : IntKind) (w : World) (a : Option Addr) (len cap : Nat) (zs : List Int) : Prop :=
  (a = none ∧ len = 0 ∧ cap = 0 ∧ zs = []) ∨
  ∃ x, a = some x ∧ len ≤ cap ∧ cap ≤ maxLen ∧ zs.length = cap ∧ (∀ i, i < zs.length → w.cell? (x.add i) = some (.int k (zs.getD i 0))) ∧ ∀ n ∈ zs, (Lit.int k n).wf = true

set_option linter.unusedSimpArgs false
set_option maxRecDepth 100000 in
theorem drawLongest {w0 : World} {a : Option Addr} {len cap : Nat} {W : World} (hS : Src w0 a len) (hb : Below w0.heap.size w0 W) :
    Calls Try.prog 24 #[.slice a len cap] W fun e w' => (∃ (s : ByteArray) (x : Int), s.size ≤ 600 ∧ -9223372036854775808 ≤ x ∧ x ≤ 9223372036854775807 ∧ e = .returned (.tuple #[.string s, .int .i64 x])) ∧ Below w0.heap.size w0 w' := by
  go_enter Try.func24, Try.ntmps24
  go_wp2_with fail
  refine (open_any hb).mono ?_
  rintro e w1 ⟨rfl, hr, _⟩
  go_wp2_with fail
  refine (data_any hS hr 8 (by omega) (by omega)).mono ?_
  rintro e w2 ⟨⟨s, hs, rfl⟩, hr2⟩
  have hsI : (s.size : Int) ≤ 600 := by omega
  have hw1 : IntKind.i64.wrap ((s.size : Int) - 1) = (s.size : Int) - 1 := by rw [IntKind.wrap_i64]; omega
  go_wp2_with fail
  refine (off_any hS hr2.rd 0 (max 0 ((s.size : Int) - 1)) (by omega) (by omega) (by omega)).mono ?_
  rintro e w3 ⟨⟨x, hx1, hx2, rfl⟩, hr3⟩
  go_wp2_with fail
  go_ret2
  exact ⟨⟨s, x, hs, hx1, hx2, rfl⟩, hr3.rd.below⟩
/-- what the best says of a place -/
theorem best_facts {s : ByteArray} {a d n : Nat} (ha : a < s.size) (h : IsB (lonF s a) a d n) (hn : 0 < n) :
    1 ≤ d ∧ d ≤ a ∧ n ≤ 66 ∧ a + n ≤ s.size ∧ (∀ k, k < n → bsOf s (a + k - d) = bsOf s (a + k)) ∧ (n = 66 ∨ a + n = s.size ∨ bsOf s (a + n - d) ≠ bsOf s (a + n)) ∧
    ∀ e, 1 ≤ e → e < d → ∃ m, m < n ∧ (∀ k, k < m → bsOf s (a + k - e) = bsOf s (a + k)) ∧ bsOf s (a + m - e) ≠ bsOf s (a + m) := by
  obtain ⟨h1, h2, h3⟩ := h
  rcases h3 with ⟨_, h0⟩ | ⟨a1, a2, a3, a4⟩
  · omega
  · unfold lonF at a3
    obtain ⟨m1, m2, m3⟩ := mlen_spec (bsOf s) (min 66 (s.size - a)) a d
    rw [a3] at m1 m2 m3
    refine ⟨a1, a2, by omega, by omega, m2, ?_, fun e he1 he2 => ?_⟩
    · rcases m3 with m3 | m3
      · by_cases c : n = 66
        · exact Or.inl c
        · exact Or.inr (Or.inl (by omega))
      · exact Or.inr (Or.inr m3)
    · have hl := h2 e he1 he2
      unfold lonF at hl
      obtain ⟨p1, p2, p3⟩ := mlen_spec (bsOf s) (min 66 (s.size - a)) a e
      refine ⟨_, hl, p2, ?_⟩
      rcases p3 with p3 | p3
      · omega
      · exact p3

set_option maxRecDepth 100000 in
set_option maxHeartbeats 1000000 in
theorem walk (a0 : Option Addr) (len0 cap0 : Nat) (z0 : List Int) (w : World) (w0 : IsRow .u8 w a0 len0 cap0 z0) :
    Calls Try.prog 6 #[.slice a0 len0 cap0] w fun e w' => e = .returned (.bool true) ∧ Below w.heap.size w w' := by
  by_cases hbig : 1048576 < len0
  · go_enter Try.func6, Try.ntmps6
    go_wp2_with fail
    refine (big_yes a0 len0 cap0 _ hbig).mono ?_
    rintro e w1 ⟨rfl, rfl⟩
    go_wp2_with fail
    go_ret
    exact ⟨rfl, Below.refl _ _⟩
  · have hS := src_of w0 (by omega)
    clear w0
    go_enter Try.func6, Try.ntmps6
    go_wp2_with fail
    refine (big_no a0 len0 cap0 _ hbig).mono ?_
    rintro e w1 ⟨rfl, hw1⟩
    subst w1
    go_wp2_with fail
    refine (drawLongest hS (Below.refl _ _)).mono ?_
    rintro e w2 ⟨⟨s, x, hs, hx1, hx2, rfl⟩, hb2⟩
    clear hS
    by_cases h : lonIn s x
    · obtain ⟨h1, h2, h3⟩ := h
      obtain ⟨a, rfl⟩ := Int.eq_ofNat_of_zero_le h2
      have ha : a < s.size := by omega
      have HA : Hid (∀ w, Calls Try.prog 25 #[.string s, .int .i64 (a : Int)] w fun e w' => e = .returned (lonV s a) ∧ Below w.heap.size w w') := fun w => slong_in s a w h1 ha
      have HB : Hid (∀ w, Calls Try.prog 23 #[.string s, .int .i64 (a : Int)] w fun e w' => e = .returned (lonV s a) ∧ Below w.heap.size w w') := fun w => long_in s a w h1 ha
      have hB := best_is (lonF s a) a
      unfold lonV at HA HB
      generalize (best (lonF s a) a).1 = d at *
      generalize (best (lonF s a) a).2 = n at *
      clear h1 h2 hx1 hx2
      have hsI : (s.size : Int) ≤ 600 := by omega
      go_wp2_with fail
      refine (HB.out _).mono ?_
      rintro e w3 ⟨rfl, hb3⟩
      replace hb3 := bl_trans3 hb2 hb3 hb2.size
      clear hb2
      go_wp2_with fail
      refine (HA.out _).mono ?_
      rintro e w4 ⟨rfl, hb4⟩
      replace hb4 := bl_trans3 hb3 hb4 hb3.size
      clear hb3 HA HB
      by_cases hn0 : n = 0
      · subst hn0
        have hd0 : d = 0 := by
          rcases hB.2.2 with ⟨c, _⟩ | ⟨_, _, _, c⟩
          · exact c
          · omega
        subst hd0
        clear hB
        go_wp2_with fail
        go_ret
        exact ⟨rfl, hb4⟩
      · obtain ⟨f1, f2, f3, f4, f5, f6, f7⟩ := best_facts ha hB (by omega)
        have F5 : Hid _ := f5
        have F6 : Hid _ := f6
        have F7 : Hid _ := f7
        clear f5 f6 f7 hB
        have hn0I : ¬ (n : Int) = 0 := by omega
        have hn0b : ((n : Int) == 0) = false := beq_eq_false_iff_ne.2 hn0I
        have g1 : ¬ (d : Int) < 1 := by omega
        have g2 : ¬ (a : Int) < (d : Int) := by omega
        have g3' : ¬ 66 < (n : Int) := by omega
        obtain ⟨an, han⟩ : ∃ an, an = a + n := ⟨_, rfl⟩
        have hwan : IntKind.i64.wrap ((a : Int) + (n : Int)) = (an : Int) := by rw [IntKind.wrap_i64]; omega
        have g4 : ¬ (s.size : Int) < (an : Int) := by omega
        have HAN : Hid (an = a + n) := han
        clear han
        go_wp2_with fail
        go_loopw [9] (fun c wr => ∃ k : Nat, k ≤ n ∧ c = .int .i64 (k : Int) ∧ Below w.heap.size w wr) (fun c _ => n - (lonIntOf c).toNat)
        case atStart => exact ⟨0, by omega, rfl, hb4⟩
        case round =>
          obtain ⟨k, hk, rfl, hb⟩ := hrel
          clear hb4
          by_cases hkn : k < n
          · have hknI : (k : Int) < (n : Int) := by omega
            obtain ⟨q2, hq2⟩ : ∃ q, q = a + k := ⟨_, rfl⟩
            obtain ⟨q1, hq1⟩ : ∃ q, q = a + k - d := ⟨_, rfl⟩
            have hw2 : IntKind.i64.wrap ((a : Int) + (k : Int)) = (q2 : Int) := by rw [IntKind.wrap_i64]; omega
            have hw1 : IntKind.i64.wrap ((q2 : Int) - (d : Int)) = (q1 : Int) := by rw [IntKind.wrap_i64]; omega
            have hx1 : q1 < s.size := by omega
            have hx2 : q2 < s.size := by omega
            have hy1 : (q1 : Int) < (s.size : Int) := by omega
            have hy2 : (q2 : Int) < (s.size : Int) := by omega
            have b1 := bsOf_at s q1 hx1
            have b2 := bsOf_at s q2 hx2
            have l2 := bsOf_lt s q2
            have heq := F5.out k hkn
            rw [← hq1, ← hq2] at heq
            rw [heq] at b1
            generalize bsOf s q2 = c2 at b1 b2 l2
            clear heq hq1 hq2
            go_wp2_with fail
            go_quiet (fail)
            go_wp2_with fail
            go_roundw
            case rel => exact ⟨k + 1, by omega, by go_num, below_drewN hb _⟩
            case measure => simp [lonIntOf]; omega
          · obtain rfl : k = n := by omega
            rcases F6.out with c66 | cL | cne
            · have d66 : decide ((k : Int) < 66) = false := decide_eq_false (by omega)
              have d66' : decide (k < 66) = false := decide_eq_false (by omega)
              have n66 : ¬ (k : Int) < 66 := by omega
              have C66 : Hid _ := c66
              clear c66
              go_wp2_with fail
              go_quiet (fail)
              have HB5 : Hid (∀ m, Below w.heap.size w (wr.drewN m)) := below_drewN hb
              clear hb
              have HN66 : Hid (k ≤ 66) := f3
              go_wp2_with fail
              go_loopw [10] (fun c wr => ∃ e : Nat, 1 ≤ e ∧ e ≤ d ∧ c = .int .i64 (e : Int) ∧ Below w.heap.size w wr) (fun c _ => d - (lonIntOf c).toNat)
              case atStart => exact ⟨1, Nat.le_refl _, f1, rfl, HB5.out _⟩
              case round =>
                obtain ⟨e, he1, he2, rfl, hbe⟩ := hrel
                by_cases hed : e < d
                · have hedI : (e : Int) < (d : Int) := by omega
                  obtain ⟨m, hm1, hm2, hm3⟩ := F7.out e he1 hed
                  have HM2 : Hid _ := hm2
                  have HM3 : Hid _ := hm3
                  clear hm2 hm3
                  rename World => wz
                  go_wp2_with fail
                  go_loopw [11] (fun c wr => ∃ j : Nat, j ≤ m ∧ c = .int .i64 (j : Int) ∧ Below w.heap.size w wr) (fun c _ => m - (lonIntOf c).toNat)
                  case atStart => exact ⟨0, by omega, rfl, hbe⟩
                  case round =>
                    obtain ⟨j, hj, rfl, hbj⟩ := hrel
                    have hjnI : (j : Int) < (k : Int) := by omega
                    obtain ⟨q2, hq2⟩ : ∃ q, q = a + j := ⟨_, rfl⟩
                    obtain ⟨q1, hq1⟩ : ∃ q, q = a + j - e := ⟨_, rfl⟩
                    have hw2 : IntKind.i64.wrap ((a : Int) + (j : Int)) = (q2 : Int) := by rw [IntKind.wrap_i64]; omega
                    have hw1 : IntKind.i64.wrap ((q2 : Int) - (e : Int)) = (q1 : Int) := by rw [IntKind.wrap_i64]; omega
                    have hx1 : q1 < s.size := by omega
                    have hx2 : q2 < s.size := by omega
                    have hy1 : (q1 : Int) < (s.size : Int) := by omega
                    have hy2 : (q2 : Int) < (s.size : Int) := by omega
                    have b1 := bsOf_at s q1 hx1
                    have b2 := bsOf_at s q2 hx2
                    have l1 := bsOf_lt s q1
                    have l2 := bsOf_lt s q2
                    by_cases hjm : j < m
                    · have heq := HM2.out j hjm
                      rw [← hq1, ← hq2] at heq
                      rw [heq] at b1
                      generalize bsOf s q2 = c2 at b1 b2 l2
                      clear heq hq1 hq2 l1
                      go_wp2_with fail
                      go_quiet (fail)
                      go_wp2_with fail
                      go_roundw
                      case rel => exact ⟨j + 1, by omega, by go_num, below_drewN hbj _⟩
                      case measure => simp [lonIntOf]; omega
                    · obtain rfl : j = m := by omega
                      have hne0 := HM3.out
                      rw [← hq1, ← hq2] at hne0
                      have hne : ¬ ((bsOf s q2 : Nat) : Int) = ((bsOf s q1 : Nat) : Int) := fun c => hne0 (Int.ofNat.inj c).symm
                      have hne' : (((bsOf s q2 : Nat) : Int) == ((bsOf s q1 : Nat) : Int)) = false := beq_eq_false_iff_ne.2 hne
                      have hjk : ¬ (j : Int) = (k : Int) := by omega
                      have hjk' : ((j : Int) == (k : Int)) = false := beq_eq_false_iff_ne.2 hjk
                      clear hq1 hq2 hne0
                      generalize bsOf s q1 = c1 at b1 l1 hne hne'
                      generalize bsOf s q2 = c2 at b2 l2 hne hne'
                      go_wp2_with fail
                      go_quiet (fail)
                      go_wp2_with fail
                      go_roundw
                      case rel => exact ⟨e + 1, by omega, by omega, by go_num, below_drewN hbj _⟩
                      case measure => simp [lonIntOf]; omega
                · obtain rfl : e = d := by omega
                  go_wp2_with fail
                  go_ret
                  exact ⟨rfl, hbe⟩
            · by_cases c66 : k < 66
              · have y66 : (k : Int) < 66 := by omega
                have dL : decide ((an : Int) < (s.size : Int)) = false := decide_eq_false (by have := HAN.out; omega)
                have dL' : decide (an < s.size) = false := decide_eq_false (by have := HAN.out; omega)
                have nL : ¬ (an : Int) < (s.size : Int) := by have := HAN.out; omega
                have CL : Hid _ := cL
                clear cL
                go_wp2_with fail
                go_quiet (fail)
                have HB5 : Hid (∀ m, Below w.heap.size w (wr.drewN m)) := below_drewN hb
                clear hb
                have HN66 : Hid (k ≤ 66) := f3
                go_wp2_with fail
                go_loopw [10] (fun c wr => ∃ e : Nat, 1 ≤ e ∧ e ≤ d ∧ c = .int .i64 (e : Int) ∧ Below w.heap.size w wr) (fun c _ => d - (lonIntOf c).toNat)
                case atStart => exact ⟨1, Nat.le_refl _, f1, rfl, HB5.out _⟩
                case round =>
                  obtain ⟨e, he1, he2, rfl, hbe⟩ := hrel
                  by_cases hed : e < d
                  · have hedI : (e : Int) < (d : Int) := by omega
                    obtain ⟨m, hm1, hm2, hm3⟩ := F7.out e he1 hed
                    have HM2 : Hid _ := hm2
                    have HM3 : Hid _ := hm3
                    clear hm2 hm3
                    rename World => wz
                    go_wp2_with fail
                    go_loopw [11] (fun c wr => ∃ j : Nat, j ≤ m ∧ c = .int .i64 (j : Int) ∧ Below w.heap.size w wr) (fun c _ => m - (lonIntOf c).toNat)
                    case atStart => exact ⟨0, by omega, rfl, hbe⟩
                    case round =>
                      obtain ⟨j, hj, rfl, hbj⟩ := hrel
                      have hjnI : (j : Int) < (k : Int) := by omega
                      obtain ⟨q2, hq2⟩ : ∃ q, q = a + j := ⟨_, rfl⟩
                      obtain ⟨q1, hq1⟩ : ∃ q, q = a + j - e := ⟨_, rfl⟩
                      have hw2 : IntKind.i64.wrap ((a : Int) + (j : Int)) = (q2 : Int) := by rw [IntKind.wrap_i64]; omega
                      have hw1 : IntKind.i64.wrap ((q2 : Int) - (e : Int)) = (q1 : Int) := by rw [IntKind.wrap_i64]; omega
                      have hx1 : q1 < s.size := by omega
                      have hx2 : q2 < s.size := by omega
                      have hy1 : (q1 : Int) < (s.size : Int) := by omega
                      have hy2 : (q2 : Int) < (s.size : Int) := by omega
                      have b1 := bsOf_at s q1 hx1
                      have b2 := bsOf_at s q2 hx2
                      have l1 := bsOf_lt s q1
                      have l2 := bsOf_lt s q2
                      by_cases hjm : j < m
                      · have heq := HM2.out j hjm
                        rw [← hq1, ← hq2] at heq
                        rw [heq] at b1
                        generalize bsOf s q2 = c2 at b1 b2 l2
                        clear heq hq1 hq2 l1
                        go_wp2_with fail
                        go_quiet (fail)
                        go_wp2_with fail
                        go_roundw
                        case rel => exact ⟨j + 1, by omega, by go_num, below_drewN hbj _⟩
                        case measure => simp [lonIntOf]; omega
                      · obtain rfl : j = m := by omega
                        have hne0 := HM3.out
                        rw [← hq1, ← hq2] at hne0
                        have hne : ¬ ((bsOf s q2 : Nat) : Int) = ((bsOf s q1 : Nat) : Int) := fun c => hne0 (Int.ofNat.inj c).symm
                        have hne' : (((bsOf s q2 : Nat) : Int) == ((bsOf s q1 : Nat) : Int)) = false := beq_eq_false_iff_ne.2 hne
                        have hjk : ¬ (j : Int) = (k : Int) := by omega
                        have hjk' : ((j : Int) == (k : Int)) = false := beq_eq_false_iff_ne.2 hjk
                        clear hq1 hq2 hne0
                        generalize bsOf s q1 = c1 at b1 l1 hne hne'
                        generalize bsOf s q2 = c2 at b2 l2 hne hne'
                        go_wp2_with fail
                        go_quiet (fail)
                        go_wp2_with fail
                        go_roundw
                        case rel => exact ⟨e + 1, by omega, by omega, by go_num, below_drewN hbj _⟩
                        case measure => simp [lonIntOf]; omega
                  · obtain rfl : e = d := by omega
                    go_wp2_with fail
                    go_ret
                    exact ⟨rfl, hbe⟩
              · have d66 : decide ((k : Int) < 66) = false := decide_eq_false (by omega)
                have d66' : decide (k < 66) = false := decide_eq_false (by omega)
                have n66 : ¬ (k : Int) < 66 := by omega
                clear cL
                go_wp2_with fail
                go_quiet (fail)
                have HB5 : Hid (∀ m, Below w.heap.size w (wr.drewN m)) := below_drewN hb
                clear hb
                have HN66 : Hid (k ≤ 66) := f3
                go_wp2_with fail
                go_loopw [10] (fun c wr => ∃ e : Nat, 1 ≤ e ∧ e ≤ d ∧ c = .int .i64 (e : Int) ∧ Below w.heap.size w wr) (fun c _ => d - (lonIntOf c).toNat)
                case atStart => exact ⟨1, Nat.le_refl _, f1, rfl, HB5.out _⟩
                case round =>
                  obtain ⟨e, he1, he2, rfl, hbe⟩ := hrel
                  by_cases hed : e < d
                  · have hedI : (e : Int) < (d : Int) := by omega
                    obtain ⟨m, hm1, hm2, hm3⟩ := F7.out e he1 hed
                    have HM2 : Hid _ := hm2
                    have HM3 : Hid _ := hm3
                    clear hm2 hm3
                    rename World => wz
                    go_wp2_with fail
                    go_loopw [11] (fun c wr => ∃ j : Nat, j ≤ m ∧ c = .int .i64 (j : Int) ∧ Below w.heap.size w wr) (fun c _ => m - (lonIntOf c).toNat)
                    case atStart => exact ⟨0, by omega, rfl, hbe⟩
                    case round =>
                      obtain ⟨j, hj, rfl, hbj⟩ := hrel
                      have hjnI : (j : Int) < (k : Int) := by omega
                      obtain ⟨q2, hq2⟩ : ∃ q, q = a + j := ⟨_, rfl⟩
                      obtain ⟨q1, hq1⟩ : ∃ q, q = a + j - e := ⟨_, rfl⟩
                      have hw2 : IntKind.i64.wrap ((a : Int) + (j : Int)) = (q2 : Int) := by rw [IntKind.wrap_i64]; omega
                      have hw1 : IntKind.i64.wrap ((q2 : Int) - (e : Int)) = (q1 : Int) := by rw [IntKind.wrap_i64]; omega
                      have hx1 : q1 < s.size := by omega
                      have hx2 : q2 < s.size := by omega
                      have hy1 : (q1 : Int) < (s.size : Int) := by omega
                      have hy2 : (q2 : Int) < (s.size : Int) := by omega
                      have b1 := bsOf_at s q1 hx1
                      have b2 := bsOf_at s q2 hx2
                      have l1 := bsOf_lt s q1
                      have l2 := bsOf_lt s q2
                      by_cases hjm : j < m
                      · have heq := HM2.out j hjm
                        rw [← hq1, ← hq2] at heq
                        rw [heq] at b1
                        generalize bsOf s q2 = c2 at b1 b2 l2
                        clear heq hq1 hq2 l1
                        go_wp2_with fail
                        go_quiet (fail)
                        go_wp2_with fail
                        go_roundw
                        case rel => exact ⟨j + 1, by omega, by go_num, below_drewN hbj _⟩
                        case measure => simp [lonIntOf]; omega
                      · obtain rfl : j = m := by omega
                        have hne0 := HM3.out
                        rw [← hq1, ← hq2] at hne0
                        have hne : ¬ ((bsOf s q2 : Nat) : Int) = ((bsOf s q1 : Nat) : Int) := fun c => hne0 (Int.ofNat.inj c).symm
                        have hne' : (((bsOf s q2 : Nat) : Int) == ((bsOf s q1 : Nat) : Int)) = false := beq_eq_false_iff_ne.2 hne
                        have hjk : ¬ (j : Int) = (k : Int) := by omega
                        have hjk' : ((j : Int) == (k : Int)) = false := beq_eq_false_iff_ne.2 hjk
                        clear hq1 hq2 hne0
                        generalize bsOf s q1 = c1 at b1 l1 hne hne'
                        generalize bsOf s q2 = c2 at b2 l2 hne hne'
                        go_wp2_with fail
                        go_quiet (fail)
                        go_wp2_with fail
                        go_roundw
                        case rel => exact ⟨e + 1, by omega, by omega, by go_num, below_drewN hbj _⟩
                        case measure => simp [lonIntOf]; omega
                  · obtain rfl : e = d := by omega
                    go_wp2_with fail
                    go_ret
                    exact ⟨rfl, hbe⟩
            · by_cases c66 : k < 66
              · have y66 : (k : Int) < 66 := by omega
                by_cases cL : an < s.size
                · have yL : (an : Int) < (s.size : Int) := by omega
                  obtain ⟨q1, hq1⟩ : ∃ q, q = a + k - d := ⟨_, rfl⟩
                  have hw1 : IntKind.i64.wrap ((an : Int) - (d : Int)) = (q1 : Int) := by have := HAN.out; rw [IntKind.wrap_i64]; omega
                  have hx1 : q1 < s.size := by omega
                  have hy1 : (q1 : Int) < (s.size : Int) := by omega
                  have b1 := bsOf_at s q1 hx1
                  have b2 := bsOf_at s an cL
                  have l1 := bsOf_lt s q1
                  have l2 := bsOf_lt s an
                  rw [← hq1, ← HAN.out] at cne
                  have hne : ¬ ((bsOf s an : Nat) : Int) = ((bsOf s q1 : Nat) : Int) := by omega
                  have hne' : (((bsOf s an : Nat) : Int) == ((bsOf s q1 : Nat) : Int)) = false := beq_eq_false_iff_ne.2 hne
                  clear hq1 cne
                  generalize bsOf s q1 = c1 at b1 l1 hne hne'
                  generalize bsOf s an = c2 at b2 l2 hne hne'
                  go_wp2_with fail
                  go_quiet (fail)
                  have HB5 : Hid (∀ m, Below w.heap.size w (wr.drewN m)) := below_drewN hb
                  clear hb
                  have HN66 : Hid (k ≤ 66) := f3
                  go_wp2_with fail
                  go_loopw [10] (fun c wr => ∃ e : Nat, 1 ≤ e ∧ e ≤ d ∧ c = .int .i64 (e : Int) ∧ Below w.heap.size w wr) (fun c _ => d - (lonIntOf c).toNat)
                  case atStart => exact ⟨1, Nat.le_refl _, f1, rfl, HB5.out _⟩
                  case round =>
                    obtain ⟨e, he1, he2, rfl, hbe⟩ := hrel
                    by_cases hed : e < d
                    · have hedI : (e : Int) < (d : Int) := by omega
                      obtain ⟨m, hm1, hm2, hm3⟩ := F7.out e he1 hed
                      have HM2 : Hid _ := hm2
                      have HM3 : Hid _ := hm3
                      clear hm2 hm3
                      rename World => wz
                      go_wp2_with fail
                      go_loopw [11] (fun c wr => ∃ j : Nat, j ≤ m ∧ c = .int .i64 (j : Int) ∧ Below w.heap.size w wr) (fun c _ => m - (lonIntOf c).toNat)
                      case atStart => exact ⟨0, by omega, rfl, hbe⟩
                      case round =>
                        obtain ⟨j, hj, rfl, hbj⟩ := hrel
                        have hjnI : (j : Int) < (k : Int) := by omega
                        obtain ⟨q2, hq2⟩ : ∃ q, q = a + j := ⟨_, rfl⟩
                        obtain ⟨q1, hq1⟩ : ∃ q, q = a + j - e := ⟨_, rfl⟩
                        have hw2 : IntKind.i64.wrap ((a : Int) + (j : Int)) = (q2 : Int) := by rw [IntKind.wrap_i64]; omega
                        have hw1 : IntKind.i64.wrap ((q2 : Int) - (e : Int)) = (q1 : Int) := by rw [IntKind.wrap_i64]; omega
                        have hx1 : q1 < s.size := by omega
                        have hx2 : q2 < s.size := by omega
                        have hy1 : (q1 : Int) < (s.size : Int) := by omega
                        have hy2 : (q2 : Int) < (s.size : Int) := by omega
                        have b1 := bsOf_at s q1 hx1
                        have b2 := bsOf_at s q2 hx2
                        have l1 := bsOf_lt s q1
                        have l2 := bsOf_lt s q2
                        by_cases hjm : j < m
                        · have heq := HM2.out j hjm
                          rw [← hq1, ← hq2] at heq
                          rw [heq] at b1
                          generalize bsOf s q2 = c2 at b1 b2 l2
                          clear heq hq1 hq2 l1
                          go_wp2_with fail
                          go_quiet (fail)
                          go_wp2_with fail
                          go_roundw
                          case rel => exact ⟨j + 1, by omega, by go_num, below_drewN hbj _⟩
                          case measure => simp [lonIntOf]; omega
                        · obtain rfl : j = m := by omega
                          have hne0 := HM3.out
                          rw [← hq1, ← hq2] at hne0
                          have hne : ¬ ((bsOf s q2 : Nat) : Int) = ((bsOf s q1 : Nat) : Int) := fun c => hne0 (Int.ofNat.inj c).symm
                          have hne' : (((bsOf s q2 : Nat) : Int) == ((bsOf s q1 : Nat) : Int)) = false := beq_eq_false_iff_ne.2 hne
                          have hjk : ¬ (j : Int) = (k : Int) := by omega
                          have hjk' : ((j : Int) == (k : Int)) = false := beq_eq_false_iff_ne.2 hjk
                          clear hq1 hq2 hne0
                          generalize bsOf s q1 = c1 at b1 l1 hne hne'
                          generalize bsOf s q2 = c2 at b2 l2 hne hne'
                          go_wp2_with fail
                          go_quiet (fail)
                          go_wp2_with fail
                          go_roundw
                          case rel => exact ⟨e + 1, by omega, by omega, by go_num, below_drewN hbj _⟩
                          case measure => simp [lonIntOf]; omega
                    · obtain rfl : e = d := by omega
                      go_wp2_with fail
                      go_ret
                      exact ⟨rfl, hbe⟩
                · have dL : decide ((an : Int) < (s.size : Int)) = false := decide_eq_false (by omega)
                  have dL' : decide (an < s.size) = false := decide_eq_false cL
                  have nL : ¬ (an : Int) < (s.size : Int) := by omega
                  clear cne
                  go_wp2_with fail
                  go_quiet (fail)
                  have HB5 : Hid (∀ m, Below w.heap.size w (wr.drewN m)) := below_drewN hb
                  clear hb
                  have HN66 : Hid (k ≤ 66) := f3
                  go_wp2_with fail
                  go_loopw [10] (fun c wr => ∃ e : Nat, 1 ≤ e ∧ e ≤ d ∧ c = .int .i64 (e : Int) ∧ Below w.heap.size w wr) (fun c _ => d - (lonIntOf c).toNat)
                  case atStart => exact ⟨1, Nat.le_refl _, f1, rfl, HB5.out _⟩
                  case round =>
                    obtain ⟨e, he1, he2, rfl, hbe⟩ := hrel
                    by_cases hed : e < d
                    · have hedI : (e : Int) < (d : Int) := by omega
                      obtain ⟨m, hm1, hm2, hm3⟩ := F7.out e he1 hed
                      have HM2 : Hid _ := hm2
                      have HM3 : Hid _ := hm3
                      clear hm2 hm3
                      rename World => wz
                      go_wp2_with fail
                      go_loopw [11] (fun c wr => ∃ j : Nat, j ≤ m ∧ c = .int .i64 (j : Int) ∧ Below w.heap.size w wr) (fun c _ => m - (lonIntOf c).toNat)
                      case atStart => exact ⟨0, by omega, rfl, hbe⟩
                      case round =>
                        obtain ⟨j, hj, rfl, hbj⟩ := hrel
                        have hjnI : (j : Int) < (k : Int) := by omega
                        obtain ⟨q2, hq2⟩ : ∃ q, q = a + j := ⟨_, rfl⟩
                        obtain ⟨q1, hq1⟩ : ∃ q, q = a + j - e := ⟨_, rfl⟩
                        have hw2 : IntKind.i64.wrap ((a : Int) + (j : Int)) = (q2 : Int) := by rw [IntKind.wrap_i64]; omega
                        have hw1 : IntKind.i64.wrap ((q2 : Int) - (e : Int)) = (q1 : Int) := by rw [IntKind.wrap_i64]; omega
                        have hx1 : q1 < s.size := by omega
                        have hx2 : q2 < s.size := by omega
                        have hy1 : (q1 : Int) < (s.size : Int) := by omega
                        have hy2 : (q2 : Int) < (s.size : Int) := by omega
                        have b1 := bsOf_at s q1 hx1
                        have b2 := bsOf_at s q2 hx2
                        have l1 := bsOf_lt s q1
                        have l2 := bsOf_lt s q2
                        by_cases hjm : j < m
                        · have heq := HM2.out j hjm
                          rw [← hq1, ← hq2] at heq
                          rw [heq] at b1
                          generalize bsOf s q2 = c2 at b1 b2 l2
                          clear heq hq1 hq2 l1
                          go_wp2_with fail
                          go_quiet (fail)
                          go_wp2_with fail
                          go_roundw
                          case rel => exact ⟨j + 1, by omega, by go_num, below_drewN hbj _⟩
                          case measure => simp [lonIntOf]; omega
                        · obtain rfl : j = m := by omega
                          have hne0 := HM3.out
                          rw [← hq1, ← hq2] at hne0
                          have hne : ¬ ((bsOf s q2 : Nat) : Int) = ((bsOf s q1 : Nat) : Int) := fun c => hne0 (Int.ofNat.inj c).symm
                          have hne' : (((bsOf s q2 : Nat) : Int) == ((bsOf s q1 : Nat) : Int)) = false := beq_eq_false_iff_ne.2 hne
                          have hjk : ¬ (j : Int) = (k : Int) := by omega
                          have hjk' : ((j : Int) == (k : Int)) = false := beq_eq_false_iff_ne.2 hjk
                          clear hq1 hq2 hne0
                          generalize bsOf s q1 = c1 at b1 l1 hne hne'
                          generalize bsOf s q2 = c2 at b2 l2 hne hne'
                          go_wp2_with fail
                          go_quiet (fail)
                          go_wp2_with fail
                          go_roundw
                          case rel => exact ⟨e + 1, by omega, by omega, by go_num, below_drewN hbj _⟩
                          case measure => simp [lonIntOf]; omega
                    · obtain rfl : e = d := by omega
                      go_wp2_with fail
                      go_ret
                      exact ⟨rfl, hbe⟩
              · have d66 : decide ((k : Int) < 66) = false := decide_eq_false (by omega)
                have d66' : decide (k < 66) = false := decide_eq_false c66
                have n66 : ¬ (k : Int) < 66 := by omega
                clear cne
                go_wp2_with fail
                go_quiet (fail)
                have HB5 : Hid (∀ m, Below w.heap.size w (wr.drewN m)) := below_drewN hb
                clear hb
                have HN66 : Hid (k ≤ 66) := f3
                go_wp2_with fail
                go_loopw [10] (fun c wr => ∃ e : Nat, 1 ≤ e ∧ e ≤ d ∧ c = .int .i64 (e : Int) ∧ Below w.heap.size w wr) (fun c _ => d - (lonIntOf c).toNat)
                case atStart => exact ⟨1, Nat.le_refl _, f1, rfl, HB5.out _⟩
                case round =>
                  obtain ⟨e, he1, he2, rfl, hbe⟩ := hrel
                  by_cases hed : e < d
                  · have hedI : (e : Int) < (d : Int) := by omega
                    obtain ⟨m, hm1, hm2, hm3⟩ := F7.out e he1 hed
                    have HM2 : Hid _ := hm2
                    have HM3 : Hid _ := hm3
                    clear hm2 hm3
                    rename World => wz
                    go_wp2_with fail
                    go_loopw [11] (fun c wr => ∃ j : Nat, j ≤ m ∧ c = .int .i64 (j : Int) ∧ Below w.heap.size w wr) (fun c _ => m - (lonIntOf c).toNat)
                    case atStart => exact ⟨0, by omega, rfl, hbe⟩
                    case round =>
                      obtain ⟨j, hj, rfl, hbj⟩ := hrel
                      have hjnI : (j : Int) < (k : Int) := by omega
                      obtain ⟨q2, hq2⟩ : ∃ q, q = a + j := ⟨_, rfl⟩
                      obtain ⟨q1, hq1⟩ : ∃ q, q = a + j - e := ⟨_, rfl⟩
                      have hw2 : IntKind.i64.wrap ((a : Int) + (j : Int)) = (q2 : Int) := by rw [IntKind.wrap_i64]; omega
                      have hw1 : IntKind.i64.wrap ((q2 : Int) - (e : Int)) = (q1 : Int) := by rw [IntKind.wrap_i64]; omega
                      have hx1 : q1 < s.size := by omega
                      have hx2 : q2 < s.size := by omega
                      have hy1 : (q1 : Int) < (s.size : Int) := by omega
                      have hy2 : (q2 : Int) < (s.size : Int) := by omega
                      have b1 := bsOf_at s q1 hx1
                      have b2 := bsOf_at s q2 hx2
                      have l1 := bsOf_lt s q1
                      have l2 := bsOf_lt s q2
                      by_cases hjm : j < m
                      · have heq := HM2.out j hjm
                        rw [← hq1, ← hq2] at heq
                        rw [heq] at b1
                        generalize bsOf s q2 = c2 at b1 b2 l2
                        clear heq hq1 hq2 l1
                        go_wp2_with fail
                        go_quiet (fail)
                        go_wp2_with fail
                        go_roundw
                        case rel => exact ⟨j + 1, by omega, by go_num, below_drewN hbj _⟩
                        case measure => simp [lonIntOf]; omega
                      · obtain rfl : j = m := by omega
                        have hne0 := HM3.out
                        rw [← hq1, ← hq2] at hne0
                        have hne : ¬ ((bsOf s q2 : Nat) : Int) = ((bsOf s q1 : Nat) : Int) := fun c => hne0 (Int.ofNat.inj c).symm
                        have hne' : (((bsOf s q2 : Nat) : Int) == ((bsOf s q1 : Nat) : Int)) = false := beq_eq_false_iff_ne.2 hne
                        have hjk : ¬ (j : Int) = (k : Int) := by omega
                        have hjk' : ((j : Int) == (k : Int)) = false := beq_eq_false_iff_ne.2 hjk
                        clear hq1 hq2 hne0
                        generalize bsOf s q1 = c1 at b1 l1 hne hne'
                        generalize bsOf s q2 = c2 at b2 l2 hne hne'
                        go_wp2_with fail
                        go_quiet (fail)
                        go_wp2_with fail
                        go_roundw
                        case rel => exact ⟨e + 1, by omega, by omega, by go_num, below_drewN hbj _⟩
                        case measure => simp [lonIntOf]; omega
                  · obtain rfl : e = d := by omega
                    go_wp2_with fail
                    go_ret
                    exact ⟨rfl, hbe⟩
    · have HA : Hid (∀ w, Calls Try.prog 25 #[.string s, .int .i64 x] w fun e w' => e = .returned (.tuple #[.int .i64 0, .int .i64 0]) ∧ w' = w) := fun w => slong_out s x w h
      have HB : Hid (∀ w, Calls Try.prog 23 #[.string s, .int .i64 x] w fun e w' => e = .returned (.tuple #[.int .i64 0, .int .i64 0]) ∧ w' = w) := fun w => long_out s x w h
      clear h hx1 hx2
      go_wp2_with fail
      refine (HB.out _).mono ?_
      rintro e w' ⟨rfl, hw⟩
      subst w'
      go_wp2_with fail
      refine (HA.out _).mono ?_
      rintro e w' ⟨rfl, hw⟩
      subst w'
      go_wp2_with fail
      go_ret
      exact ⟨rfl, hb2⟩

set_option maxRecDepth 100000 in
theorem lifted (os : Os) (started : os.Started) (H : Type) (enc : TypeId × Value → H) :
    ReturnsInHanded {} Try.checked os 6 .any (Rows.fnLongestSpec.pre6 enc Try.prog Try.f6 Rows.fnLongestRow.domain false) (Rows.fnLongestSpec.post enc Try.prog Try.f6 false true false false) := by
  refine returnsInHanded_of_change (C := Try.checked) own started (by kernel_rfl) Try.func6
    (ChangeSpec.witness6 (enc := enc) (C := Try.checked) false ⟨#[], #[.slice none 0 0], []⟩ 8 (by kernel_rfl) (by kernel_rfl) (by kernel_rfl) (by kernel_rfl)) ?_
  intro W base args ds gs before hval0 hW hcnd _
  have hval : ∀ (j : Nat) t v, Try.f6.params[j]? = some t → args[j]? = some v → Value.okWide Try.prog W .any base t v := hval0
  have hW' := hW
  obtain ⟨p, q, hA0, hV, rfl, hfz, hnd⟩ := hW
  have hA : DataW.TrodAll enc Try.prog W 0 (fun _ => true) true Try.f6.params.toList args.toList ds p := hA0
  rw [Try.params6] at hA hval
  obtain ⟨v0, vs0, d0, ds0, p0, q0, hargs, rfl, rfl, h0, r0⟩ := trodAll_cons hA
  obtain ⟨rfl, rfl, rfl⟩ := trodAll_nil r0
  obtain rfl : args = #[v0] := by cases args; simp_all
  obtain ⟨rfl, rfl⟩ := trodVars_none hV
  obtain ⟨a0, len0, cap0, rfl⟩ := okWide_slice Try.underlying22 (hval 0 22 v0 rfl rfl)
  have k0 := h0
  have lt0 : ∀ x ∈ p0, x.block < W.heap.size := by obtain ⟨m, hm⟩ := k0; exact DataW.trod_lt m _ _ _ hm
  obtain ⟨z0, w0⟩ : ∃ zs, IsRow .u8 W a0 len0 cap0 zs := by
    obtain ⟨fuel, hf⟩ := h0
    rcases open_ints Try.underlying22 Try.underlying5 (by kernel_rfl) hf with ⟨hcs, _⟩ | ⟨x, l, c, zs, hcs, _, hl, hm, hz, _, hcell, hwz⟩
    · simp [Value.cells] at hcs
      obtain ⟨rfl, rfl, rfl⟩ := hcs
      exact ⟨[], .inl ⟨rfl, rfl, rfl, rfl⟩⟩
    · simp [Value.cells] at hcs
      obtain ⟨rfl, rfl, rfl⟩ := hcs
      exact ⟨zs, .inr ⟨_, rfl, hl, hm, by simpa using hz, hcell, hwz⟩⟩
  clear hA0 hval0
  refine (walk a0 len0 cap0 z0 W w0).mono fun e W' ⟨he, bel⟩ => ?_
  subst he
  exact ⟨_, rfl, _, _, _, [], _, [], hW', trodAll_mk1 (shut_bool Try.underlying4 _), (trodAll_cons_mk (Below.trod laidOut (by kernel_rfl) (of_decide_eq_true (by kernel_rfl)) k0 bel lt0) trodAll_mk0), rfl, bel.frame _, fun h => by cases h⟩

theorem over : Rows.fnLongestRow.holds Try.pinned (OpenSpec.ofChange Rows.fnLongestSpec) :=
  OpenClaim.holds_of_wide 6 Try.f6 rfl rfl rfl rfl rfl rfl rfl ⟨rfl, rfl, rfl, rfl, rfl⟩ rfl rfl rfl rfl rfl (by kernel_rfl) Try.func6 (by kernel_rfl)
    (of_decide_eq_true (by kernel_rfl)) (by unfold Func.isWrapper; first | (rw [if_pos (by decide +kernel)]; kernel_rfl) | (rw [if_neg (by decide +kernel)]; exact ⟨rfl, rfl⟩))
    (fun os started H enc _ => lifted os started H enc)

theorem proved : Rows.FnLongestSaid := over
#print axioms proved
end Go.Proofs.Ytnkahdidelhdaac.fnLongest
