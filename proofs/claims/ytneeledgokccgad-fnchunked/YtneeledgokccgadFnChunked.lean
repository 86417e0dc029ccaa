/-
  Chunks of the code: one behind the other they are the data, none is longer than the most, all but the last are at least the least.
-/
import Derived.Test.YtneeledgokccgadRows
import Derived.Test.YtneeledgokccgadChkS
import Derived.Test.YtneeledgokccgadSameT
import Derived.Test.YtneeledgokccgadChkB
import Derived.Test.YtneeledgokccgadDrwShp2
import Derived.BigQuiet
import Derived.WalkKit
import Derived.ProofKit
import Derived.OpenShut
import Derived.ShutString
import Derived.ChangeOld
import Derived.Below
namespace Go.Proofs.Ytneeledgokccgad.fnChunked
open Go.ChangeShapes Go.WideShapes Go.ChangeAt Go.RowKit
open Go.ChangeMaps (open_string shut_string)
set_option linter.unusedVariables false

theorem own : ownKnob Try.prog.godebug = none := by kernel_rfl
theorem laidOut : laidOutB Try.prog = true := by kernel_rfl

/-- WHAT THE WALK IS TOLD OF A SLICE OF INTEGERS THAT CAME IN: it is nil; or it leads to a row of 'cap' cells, the numbers 'zs' (the first 'len' are its elements, the rest its spare room), each fitting its kind. -/
def IsRow (k : IntKind) (w : World) (a : Option Addr) (len cap : Nat) (zs : List Int) : Prop :=
  (a = none ∧ len = 0 ∧ cap = 0 ∧ zs = []) ∨
  ∃ x, a = some x ∧ len ≤ cap ∧ cap ≤ maxLen ∧ zs.length = cap ∧ (∀ i, i < zs.length → w.cell? (x.add i) = some (.int k (zs.getD i 0))) ∧ ∀ n ∈ zs, (Lit.int k n).wf = true

set_option linter.unusedSimpArgs false
set_option linter.unusedVariables false
theorem bl_t {B C : Nat} {a b c : World} (h : Below B a b) (k : Below C b c) (hBC : B ≤ C) : Below B a c :=
  ⟨k.os.trans h.os, k.tape.trans h.tape, k.output.trans h.output, Nat.le_trans h.size k.size, fun i hi => (k.block i (Nat.lt_of_lt_of_le hi hBC)).trans (h.block i hi)⟩
theorem shpN {l b m : Int} (h : shpP l b m) : ∃ L B M : Nat, l = (L : Int) ∧ b = (B : Int) ∧ m = (M : Int) ∧ (1 ≤ L ∧ L ≤ 1000) ∧ (1 ≤ B ∧ B ≤ 12) ∧ (L ≤ M ∧ M ≤ 4000) := by
  obtain ⟨⟨h1, h2⟩, ⟨h3, h4⟩, h5, h6⟩ := h
  exact ⟨l.toNat, b.toNat, m.toNat, by omega, by omega, by omega, by omega, by omega, by omega⟩
def rowB (l b m : Int) : Obj := .cells #[.int .i64 l, .int .i64 b, .int .i64 m] 34 (0, 0)
structure StB (k : Nat) (l b m : Int) (w a : World) : Prop where
  row : a.heap[k]? = some (rowB l b m)
  below : Below w.heap.size w a
theorem StB.call {k : Nat} {l b m : Int} {w a c : World} (h : StB k l b m w a) (hb : Below a.heap.size a c) : StB k l b m w c := ⟨(hb.block _ (row_ltS h.row)).trans h.row, bl_t h.below hb h.below.size⟩
theorem StB.q0 {k : Nat} {l b m : Int} {w a : World} (h : StB k l b m w a) : a.cell? ⟨k, 0, none⟩ = some (.int .i64 l) := cell_of_row a k 0 _ _ _ h.row
theorem StB.q1 {k : Nat} {l b m : Int} {w a : World} (h : StB k l b m w a) : a.cell? ⟨k, 1, none⟩ = some (.int .i64 b) := cell_of_row a k 1 _ _ _ h.row
theorem StB.q2 {k : Nat} {l b m : Int} {w a : World} (h : StB k l b m w a) : a.cell? ⟨k, 2, none⟩ = some (.int .i64 m) := cell_of_row a k 2 _ _ _ h.row

set_option maxRecDepth 100000 in
set_option maxHeartbeats 1000000 in
theorem walk (a0 : Option Addr) (len0 cap0 : Nat) (z0 : List Int) (w : World) (w0 : IsRow .u8 w a0 len0 cap0 z0) :
    Calls Try.prog 5 #[.slice a0 len0 cap0] w fun e w' => e = .returned (.bool true) ∧ Below w.heap.size w w' := by
  by_cases hbig : 1048576 < len0
  · go_enter Try.func5, Try.ntmps5
    go_wp2_with fail
    refine (big_yes a0 len0 cap0 _ hbig).mono ?_
    rintro e w1 ⟨rfl, rfl⟩
    go_wp2_with fail
    go_ret
    exact ⟨rfl, Below.refl _ _⟩
  · have hS := src_of w0 (by omega)
    clear w0
    go_enter Try.func5, Try.ntmps5
    go_wp2_with fail
    refine (big_no a0 len0 cap0 _ hbig).mono ?_
    rintro e w1 ⟨rfl, hw1⟩
    subst w1
    go_wp2_with fail
    refine (drawChunks hS (Below.refl _ _)).mono ?_
    rintro e w2 ⟨⟨s, l, b, m, hs, rfl⟩, hb2⟩
    clear hS hbig
    unfold shpV
    have HS2 : Hid (StB w2.heap.size l b m w (w2.alloc (.cells #[.int .i64 l, .int .i64 b, .int .i64 m] 34))) := ⟨heap_alloc_new _ _, hb2.alloc hb2.size _⟩
    have q0 := HS2.out.q0
    have q1 := HS2.out.q1
    have q2 := HS2.out.q2
    clear hb2
    go_wp2_with fail
    generalize w2.alloc (.cells #[.int .i64 l, .int .i64 b, .int .i64 m] 34) = W2 at HS2 ⊢
    generalize w2.heap.size = kb at HS2 ⊢
    clear q0 q1 q2
    have hss : s.size < 140737488351232 := by omega
    by_cases hp : shpP l b m ∧ s.size ≤ 4000
    · obtain ⟨L, B, M, rfl, rfl, rfl, h1, h2, h3⟩ := shpN hp.1
      have HA : Hid (∀ w, Calls Try.prog 18 #[.string s, shpV L B M] w fun e w' => (∃ v, e = .returned (.tuple #[v, .bool true]) ∧ w'.ownsRow w.heap.size 9 1 v (cutL L B M 0 0 0 (lst s)).length (chkC (chkL s 0 (cutL L B M 0 0 0 (lst s))))) ∧ Below w.heap.size w w') := fun w => chunks_any L B M s hp.2 h1 h2 h3 w
      have HB : Hid (∀ w, Calls Try.prog 19 #[.string s, shpV L B M] w fun e w' => (∃ v, e = .returned (.tuple #[v, .bool true]) ∧ w'.ownsRow w.heap.size 9 1 v (cutL L B M 0 0 0 (lst s)).length (chkC (chkL s 0 (cutL L B M 0 0 0 (lst s))))) ∧ Below w.heap.size w w') := fun w => schunks_any L B M s hp.2 h1 h2 h3 w
      have HC : Hid (∀ w, Calls Try.prog 20 #[.string s, shpV L B M] w fun e w' => (∃ v, e = .returned (.tuple #[v, .bool true]) ∧ w'.ownsRow w.heap.size 2 1 v (cutL L B M 0 0 0 (lst s)).length (cutC (cutL L B M 0 0 0 (lst s)))) ∧ Below w.heap.size w w') := fun w => cuts_any L B M s hp.2 h1 h2 h3 w
      have HLN : Hid ((cutL L B M 0 0 0 (lst s)).length ≤ 4000) := by
        show _ ≤ _
        have := cutL_len (L := L) (B := B) (M := M) 0 0 0 (lst s)
        rw [lst_len] at this; omega
      have HLC : Hid (lastC 0 (cutL L B M 0 0 0 (lst s)) = s.size) := lastC_all s
      have HBD : Hid (∀ pre post x, cutL L B M 0 0 0 (lst s) = pre ++ x :: post → lastC 0 pre < x ∧ x - lastC 0 pre ≤ M ∧ (post ≠ [] → L ≤ x - lastC 0 pre) ∧ x ≤ s.size) := fun pre post x he => by
        obtain ⟨a, b, c⟩ := cut_bounds h1.1 h3.1 he
        have d := (cut_order (L := L) (B := B) (M := M) (l := lst s) (pre := pre) (x := x) ⟨post, by rw [he]; simp⟩).2
        rw [lst_len] at d
        exact ⟨a, b, c, d⟩
      generalize cutL L B M 0 0 0 (lst s) = tot at HA HB HC HLN HLC HBD
      obtain ⟨n, hn⟩ : ∃ n, tot.length = n := ⟨_, rfl⟩
      have HNT : Hid (tot.length = n) := hn
      rw [hn] at HA HB HC HLN
      unfold shpV at HA HB HC
      clear hp hn
      refine (HA.out _).mono ?_
      rintro e w3 ⟨⟨v1, rfl, ho1⟩, hb3⟩
      have HS3 : Hid (StB kb L B M w w3) := HS2.out.call hb3
      have HO1 : Hid (w3.ownsRow w.heap.size 9 1 v1 n (chkC (chkL s 0 tot))) := owns_baseJ ho1 HS2.out.below.size
      clear ho1 hb3 HS2 HA
      have q0 := HS3.out.q0
      have q1 := HS3.out.q1
      have q2 := HS3.out.q2
      go_wp2_with fail
      refine (HB.out _).mono ?_
      rintro e w4 ⟨⟨v2, rfl, ho2⟩, hb4⟩
      have HS4 : Hid (StB kb L B M w w4) := HS3.out.call hb4
      have HO2 : Hid (w4.ownsRow w.heap.size 9 1 v1 n (chkC (chkL s 0 tot)) ∧ w4.ownsRow w.heap.size 9 1 v2 n (chkC (chkL s 0 tot))) := ⟨owns_callJ HO1.out hb4, owns_baseJ ho2 HS3.out.below.size⟩
      clear ho2 hb4 HS3 HB HO1 q0 q1 q2
      have q0 := HS4.out.q0
      have q1 := HS4.out.q1
      have q2 := HS4.out.q2
      go_wp2_with fail
      refine (HC.out _).mono ?_
      rintro e w5 ⟨⟨v3, rfl, ho3⟩, hb5⟩
      have HS5 : Hid (StB kb L B M w w5) := HS4.out.call hb5
      have HO3 : Hid (w5.ownsRow w.heap.size 9 1 v1 n (chkC (chkL s 0 tot)) ∧ w5.ownsRow w.heap.size 9 1 v2 n (chkC (chkL s 0 tot)) ∧ w5.ownsRow w.heap.size 2 1 v3 n (cutC tot)) := ⟨owns_callJ HO2.out.1 hb5, owns_callJ HO2.out.2 hb5, owns_baseJ ho3 HS4.out.below.size⟩
      clear ho3 hb5 HS4 HC HO2 q0 q1 q2
      by_cases hn0 : n = 0
      · subst hn0
        obtain ⟨a1, c1, rfl⟩ := own_zeroJ HO3.out.1
        obtain ⟨a2, c2, rfl⟩ := own_zeroJ HO3.out.2.1
        obtain ⟨a3, c3, rfl⟩ := own_zeroJ HO3.out.2.2
        have hs0 : s = ⟨#[]⟩ := by
          have e1 := List.eq_nil_of_length_eq_zero HNT.out
          have e2 := HLC.out
          rw [e1] at e2
          exact ByteArray.ext (Array.eq_empty_of_size_eq_zero e2.symm)
        clear HLC HBD HO3
        subst hs0
        go_wp2_with fail
        refine (sameT_zero _ _ _ _ _).mono ?_
        rintro e w6 ⟨rfl, hb6⟩
        have HS6 : Hid (StB kb L B M w w6) := HS5.out.call hb6
        clear hb6
        go_wp2_with fail
        refine wp_loop_rounds 1 ?_
        rw [rounds_succ]
        go_wp2_with fail
        go_ret
        exact ⟨rfl, HS6.out.below⟩
      · obtain ⟨g1, c1, u1, rfl, _, r1, _, x1⟩ := own_formJ HO3.out.1 (by omega)
        obtain ⟨g2, c2, u2, rfl, _, r2, _, x2⟩ := own_formJ HO3.out.2.1 (by omega)
        obtain ⟨g3, c3, u3, rfl, _, r3, _, x3⟩ := own_formJ HO3.out.2.2 (by omega)
        have HT : Hid (Calls Try.prog 21 #[.slice (some ⟨g1, 0, none⟩) n c1, .slice (some ⟨g2, 0, none⟩) n c2] w5 fun e w' => e = .returned (.bool true) ∧ Below w5.heap.size w5 w') :=
          sameT_any g1 g2 0 c1 c2 n (chkL s 0 tot) w5 (by have := HLN.out; omega) (by omega) (by rw [chkL_len]; exact HNT.out) (fun j v hj => (cell_of_row w5 _ j _ _ _ r1).trans (x1 j v hj)) (fun j v hj => by rw [Nat.zero_add]; exact (cell_of_row w5 _ j _ _ _ r2).trans (x2 j v hj))
        have HX : Hid (∀ (w6 : World), Below w5.heap.size w5 w6 → ∀ k, (hk : k < tot.length) → w6.cell? ⟨g1, k, none⟩ = some (.string (s.extract (lastC 0 (tot.take k)) tot[k])) ∧ w6.cell? ⟨g3, k, none⟩ = some (.int .i64 ((tot[k] : Nat) : Int))) := fun w6 hb k hk => by
          refine ⟨(hb.cell (p := ⟨g1, k, none⟩) (row_ltS r1)).trans ((cell_of_row w5 _ k _ _ _ r1).trans (x1 k _ ?_)), (hb.cell (p := ⟨g3, k, none⟩) (row_ltS r3)).trans ((cell_of_row w5 _ k _ _ _ r3).trans (x3 k _ ?_))⟩
          · unfold chkC; rw [List.getElem?_map, chkL_at s 0 tot k hk]; rfl
          · simp [cutC, hk]
        clear r1 r2 r3 x1 x2 x3 HO3
        go_wp2_with fail
        refine HT.out.mono ?_
        rintro e w6 ⟨rfl, hb6⟩
        have HS6 : Hid (StB kb L B M w w6) := HS5.out.call hb6
        have HX6 : Hid _ := HX.out w6 hb6
        clear hb6 HX HT HS5
        have q0 := HS6.out.q0
        have q2 := HS6.out.q2
        go_wp2_with fail
        go_loopw [11, 12] (fun t i wr => ∃ k : Nat, k ≤ n ∧ i = .int .i64 (k : Int) ∧ t = .string (s.extract 0 (lastC 0 (tot.take k))) ∧ wr = w6) (fun _ i _ => n - natOf i)
        case atStart => exact ⟨0, by omega, rfl, congrArg Value.string (by show (⟨#[]⟩ : ByteArray) = s.extract 0 0; apply ByteArray.ext; apply Eq.symm; apply Array.eq_empty_of_size_eq_zero; show (s.extract 0 0).size = 0; rw [ByteArray.size_extract]; omega), rfl⟩
        case round =>
          obtain ⟨k, hk, rfl, rfl, rfl⟩ := hrel
          by_cases hlt : k < n
          · have hltI : (k : Int) < (n : Int) := by omega
            have hkt : k < tot.length := by have := HNT.out; omega
            obtain ⟨e1, e3⟩ := HX6.out k hkt
            have hsp : tot = tot.take k ++ tot[k] :: tot.drop (k + 1) := by rw [← List.drop_eq_getElem_cons hkt]; exact (List.take_append_drop k tot).symm
            obtain ⟨b1, b2, b3, b4⟩ := HBD.out _ _ _ hsp
            have hpost : k + 1 < n → tot.drop (k + 1) ≠ [] := fun h e => by
              have := List.drop_eq_nil_iff.1 e; have := HNT.out; omega
            have HLT : Hid (lastC 0 (tot.take (k + 1)) = tot[k]) := by show _ = _; rw [List.take_succ_eq_append_getElem hkt]; exact lastC_snoc _ _ _
            have HEX : Hid (s.extract 0 (lastC 0 (tot.take k)) ++ s.extract (lastC 0 (tot.take k)) tot[k] = s.extract 0 tot[k]) := extract_more s _ _ (by omega) b4
            have hA : (s.extract 0 (lastC 0 (tot.take k))).size = lastC 0 (tot.take k) := by rw [ByteArray.size_extract]; omega
            have hT : (s.extract (lastC 0 (tot.take k)) tot[k]).size = tot[k] - lastC 0 (tot.take k) := by rw [ByteArray.size_extract]; omega
            generalize s.extract (lastC 0 (tot.take k)) tot[k] = T at *
            generalize s.extract 0 (lastC 0 (tot.take k)) = A at *
            generalize hc : tot[k] = c at *
            generalize lastC 0 (tot.take k) = fr at *
            have d1 : ¬ (M : Int) < (T.size : Int) := by omega
            have d2 : ¬ (T.size : Int) < 1 := by omega
            have d3 : ((c : Int) == ((A.size : Int) + (T.size : Int))) = true := beq_iff_eq.2 (by omega)
            have d4 : ¬ 9223372036854775807 < A.size + T.size := by omega
            have HK : Hid (k < n) := hlt
            have hn4 := HLN.out
            have hk4 : k < 4000 := by omega
            clear hsp hA
            by_cases hl : k + 1 < n
            · have hlI : (k : Int) + 1 < (n : Int) := by omega
              have d5 : ¬ (T.size : Int) < (L : Int) := by have := b3 (hpost hl); omega
              clear hpost b3 hT hc
              go_wp2_with fail
              go_roundw
              case rel => exact ⟨k + 1, HK.out, by go_num, by rw [HLT.out, ← HEX.out], by first | rfl | trivial⟩
              case measure => have := HK.out; simp [natOf]; omega
            · have hlI : ¬ (k : Int) + 1 < (n : Int) := by omega
              clear hpost b3 hT hc
              go_wp2_with fail
              go_roundw
              case rel => exact ⟨k + 1, HK.out, by go_num, by rw [HLT.out, ← HEX.out], by first | rfl | trivial⟩
              case measure => have := HK.out; simp [natOf]; omega
          · obtain rfl : k = n := by omega
            have hall : s.extract 0 (lastC 0 (tot.take k)) = s := by
              have e1 : tot.take k = tot := by rw [← HNT.out]; exact List.take_length
              rw [e1, HLC.out]; exact extract_all s
            rw [hall]
            clear hall
            go_wp2_with fail
            go_ret
            exact ⟨rfl, HS6.out.below⟩
    · have q0 := HS2.out.q0
      have q1 := HS2.out.q1
      have q2 := HS2.out.q2
      have HA : Hid (∀ w, Calls Try.prog 18 #[.string s, shpV l b m] w fun e w' => e = .returned (.tuple #[.slice none 0 0, .bool false]) ∧ Below w.heap.size w w') := fun w => chunks_no l b m s hss hp w
      have HB : Hid (∀ w, Calls Try.prog 19 #[.string s, shpV l b m] w fun e w' => e = .returned (.tuple #[.slice none 0 0, .bool false]) ∧ Below w.heap.size w w') := fun w => schunks_no l b m s hss hp w
      have HC : Hid (∀ w, Calls Try.prog 20 #[.string s, shpV l b m] w fun e w' => e = .returned (.tuple #[.slice none 0 0, .bool false]) ∧ Below w.heap.size w w') := fun w => cuts_no l b m s hss hp w
      unfold shpV at HA HB HC
      clear hp
      refine (HA.out _).mono ?_
      rintro e w3 ⟨rfl, hb3⟩
      have HS3 : Hid (StB kb l b m w w3) := HS2.out.call hb3
      clear hb3 HS2 q0 q1 q2
      have q0 := HS3.out.q0
      have q1 := HS3.out.q1
      have q2 := HS3.out.q2
      go_wp2_with fail
      refine (HB.out _).mono ?_
      rintro e w4 ⟨rfl, hb4⟩
      have HS4 : Hid (StB kb l b m w w4) := HS3.out.call hb4
      clear hb4 HS3 q0 q1 q2
      have q0 := HS4.out.q0
      have q1 := HS4.out.q1
      have q2 := HS4.out.q2
      go_wp2_with fail
      refine (HC.out _).mono ?_
      rintro e w5 ⟨rfl, hb5⟩
      have HS5 : Hid (StB kb l b m w w5) := HS4.out.call hb5
      clear hb5 HS4 q0 q1 q2
      go_wp2_with fail
      refine (sameT_zero _ _ _ _ _).mono ?_
      rintro e w6 ⟨rfl, hb6⟩
      have HS6 : Hid (StB kb l b m w w6) := HS5.out.call hb6
      clear hb6
      go_wp2_with fail
      refine wp_loop_rounds 1 ?_
      rw [rounds_succ]
      go_wp2_with fail
      go_ret
      exact ⟨rfl, HS6.out.below⟩

set_option maxRecDepth 100000 in
theorem lifted (os : Os) (started : os.Started) (H : Type) (enc : TypeId × Value → H) :
    ReturnsInHanded {} Try.checked os 5 .any (Rows.fnChunkedSpec.pre6 enc Try.prog Try.f5 Rows.fnChunkedRow.domain false) (Rows.fnChunkedSpec.post enc Try.prog Try.f5 false true false false) := by
  refine returnsInHanded_of_change (C := Try.checked) own started (by kernel_rfl) Try.func5
    (ChangeSpec.witness6 (enc := enc) (C := Try.checked) false ⟨#[], #[.slice none 0 0], []⟩ 8 (by kernel_rfl) (by kernel_rfl) (by kernel_rfl) (by kernel_rfl)) ?_
  intro W base args ds gs before hval0 hW hcnd _
  have hval : ∀ (j : Nat) t v, Try.f5.params[j]? = some t → args[j]? = some v → Value.okWide Try.prog W .any base t v := hval0
  have hW' := hW
  obtain ⟨p, q, hA0, hV, rfl, hfz, hnd⟩ := hW
  have hA : DataW.TrodAll enc Try.prog W 0 (fun _ => true) true Try.f5.params.toList args.toList ds p := hA0
  rw [Try.params5] at hA hval
  obtain ⟨v0, vs0, d0, ds0, p0, q0, hargs, rfl, rfl, h0, r0⟩ := trodAll_cons hA
  obtain ⟨rfl, rfl, rfl⟩ := trodAll_nil r0
  obtain rfl : args = #[v0] := by cases args; simp_all
  obtain ⟨rfl, rfl⟩ := trodVars_none hV
  obtain ⟨a0, len0, cap0, rfl⟩ := okWide_slice Try.underlying22 (hval 0 22 v0 rfl rfl)
  have k0 := h0
  have lt0 : ∀ x ∈ p0, x.block < W.heap.size := by obtain ⟨m, hm⟩ := k0; exact DataW.trod_lt m _ _ _ hm
  obtain ⟨z0, w0⟩ : ∃ zs, IsRow .u8 W a0 len0 cap0 zs := by
    obtain ⟨fuel, hf⟩ := h0
    rcases open_ints Try.underlying22 Try.underlying5 (by kernel_rfl) hf with ⟨hcs, _⟩ | ⟨x, l, c, zs, hcs, _, hl, hm, hz, _, hcell, hwz⟩
    · simp [Value.cells] at hcs
      obtain ⟨rfl, rfl, rfl⟩ := hcs
      exact ⟨[], .inl ⟨rfl, rfl, rfl, rfl⟩⟩
    · simp [Value.cells] at hcs
      obtain ⟨rfl, rfl, rfl⟩ := hcs
      exact ⟨zs, .inr ⟨_, rfl, hl, hm, by simpa using hz, hcell, hwz⟩⟩
  clear hA0 hval0
  refine (walk a0 len0 cap0 z0 W w0).mono fun e W' ⟨he, bel⟩ => ?_
  subst he
  exact ⟨_, rfl, _, _, _, [], _, [], hW', trodAll_mk1 (shut_bool Try.underlying4 _), (trodAll_cons_mk (Below.trod laidOut (by kernel_rfl) (of_decide_eq_true (by kernel_rfl)) k0 bel lt0) trodAll_mk0), rfl, bel.frame _, fun h => by cases h⟩

theorem over : Rows.fnChunkedRow.holds Try.pinned (OpenSpec.ofChange Rows.fnChunkedSpec) :=
  OpenClaim.holds_of_wide 5 Try.f5 rfl rfl rfl rfl rfl rfl rfl ⟨rfl, rfl, rfl, rfl, rfl⟩ rfl rfl rfl rfl rfl (by kernel_rfl) Try.func5 (by kernel_rfl)
    (of_decide_eq_true (by kernel_rfl)) (by unfold Func.isWrapper; first | (rw [if_pos (by decide +kernel)]; kernel_rfl) | (rw [if_neg (by decide +kernel)]; exact ⟨rfl, rfl⟩))
    (fun os started H enc _ => lifted os started H enc)

theorem proved : Rows.FnChunkedSaid := over
#print axioms proved
end Go.Proofs.Ytneeledgokccgad.fnChunked
