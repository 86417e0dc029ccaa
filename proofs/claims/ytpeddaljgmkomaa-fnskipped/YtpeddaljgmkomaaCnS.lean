/-
  What the law of chains that skip is drawn of.
-/
import Derived.Test.YtpeddaljgmkomaaPk29
namespace Go.Proofs.Ytpeddaljgmkomaa
open Go.RowKit
set_option linter.unusedVariables false
set_option linter.unusedSimpArgs false
set_option maxRecDepth 100000 in
set_option maxHeartbeats 2000000 in
theorem drawSkip {w0 : World} {a : Option Addr} {len cap : Nat} {W : World} (hS : Src w0 a len) (hb : Below w0.heap.size w0 W) :
    Calls Try.prog 36 #[.slice a len cap] W fun e w' => (∃ (v : Value) (L : List LkI) (k : Int), L.length ≤ 9 ∧ LkLe L ∧ (Lit.int .i64 k).wf = true ∧ e = .returned (.tuple #[v, .int .i64 k]) ∧ ∃ bs, Hd w' (lksD L) v bs) ∧ Below w0.heap.size w0 w' := by
  have HS : Hid (Src w0 a len) := hS
  have HADD : Hid (∀ g v (L : List LkI) W (s : ByteArray) (k : Int), DC w0 a len cap g W v L → s.size ≤ 1048576 → Calls Try.prog 22 #[v, .string s, .int .i64 k] W fun e w' => DcPost w0 a len cap g v L e w') := fun g v L W s k h hs => dc_add h s k hs
  go_enter Try.func36, Try.ntmps36
  go_wp2_with fail
  refine (open_any hb).mono ?_
  rintro e w1 ⟨rfl, hr, _⟩
  generalize W.heap.size = g at hr ⊢
  go_wp2_with fail
  refine (once_any hS hr 4 (by omega) (by omega)).mono ?_
  rintro e w2 ⟨⟨x, rfl⟩, hr2⟩
  have hr3 := hr2.rd
  clear hr hr2 hb
  cases x with
  | true =>
    go_wp2_with fail
    refine (chain_drawn hS hr3).mono ?_
    rintro e w2 ⟨v, L, hL, rfl, hd⟩
    obtain ⟨b, c, rfl⟩ := hd.form
    obtain ⟨n, hn⟩ : ∃ n, n = L.length := ⟨_, rfl⟩
    rw [← hn] at hd hL ⊢
    have HD := dhid hd
    have HN := dhid hn
    clear hd hn hr3 HADD
    by_cases h0 : n = 0
    · subst h0
      go_wp2_with fail
      refine (off_any hS HD.out.rd 0 0 (by omega) (by omega) (by omega)).mono ?_
      rintro e w3 ⟨⟨x, hx1, hx2, rfl⟩, hr3⟩
      have HD3 := dhid (HD.out.rd3 hr3)
      clear hr3 HD
      go_wp2_with fail
      go_ret2
      exact ⟨⟨_, L, x, by rw [← HN.out]; exact hL, HD3.out.le, Go.WalkArith.wf_i64 ⟨hx1, hx2⟩, rfl, HD3.out.hd⟩, HD3.out.rd.below⟩
    · have hw1 : IntKind.i64.wrap ((n : Int) - 1) = (n : Int) - 1 := by rw [IntKind.wrap_i64]; omega
      have hmx : max 0 ((n : Int) - 1) = (n : Int) - 1 := by omega
      go_wp2_with fail
      refine (off_any hS HD.out.rd 0 ((n : Int) - 1) (by omega) (by omega) (by omega)).mono ?_
      rintro e w3 ⟨⟨x, hx1, hx2, rfl⟩, hr3⟩
      have HD3 := dhid (HD.out.rd3 hr3)
      clear hr3 HD
      go_wp2_with fail
      go_ret2
      exact ⟨⟨_, L, x, by rw [← HN.out]; exact hL, HD3.out.le, Go.WalkArith.wf_i64 ⟨hx1, hx2⟩, rfl, HD3.out.hd⟩, HD3.out.rd.below⟩
  | false =>
    have HD0 : Hid (DC w0 a len cap g (w2.alloc (.cells #[] 54)) (.slice (some ⟨w2.heap.size, 0, none⟩) 0 0) []) :=
      ⟨hr3.alloc _, ⟨[], World.ownsRow_made w2 #[] 0 hr3.lt (by unfold maxLen; omega) rfl, Nst.nil _ _, fun d hd => (by cases hd), by unfold isPc; decide⟩, ⟨by simp, fun x hx => by cases hx⟩⟩
    clear hr3
    go_wp2_with fail
    refine (data_any hS HD0.out.rd 2 (by omega) (by omega)).mono ?_
    rintro e w1 ⟨⟨s0, hs0, rfl⟩, hr1⟩
    have HD1 := dhid (HD0.out.rd3 hr1)
    clear hr1 HD0
    go_wp2_with fail
    refine (below_any hS HD1.out.rd 4 (by omega) (by omega)).mono ?_
    rintro e w3 ⟨⟨x, hx1, hx2, rfl⟩, hr2⟩
    have HD2 := dhid (HD1.out.rd3 hr2)
    clear hr2 HD1 hS
    obtain ⟨x, rfl⟩ := Int.eq_ofNat_of_zero_le hx1
    have hw3 : IntKind.i64.wrap (3 + (x : Int)) = 3 + (x : Int) := by rw [IntKind.wrap_i64]; omega
    go_wp2_with fail
    go_loopw [6, 7, 8] (fun ov sv t wr => ∃ (L : List LkI) (s : ByteArray) (m : Nat), L.length + m ≤ 6 ∧ 55 ≤ s.size ∧ s.size + 20 * m ≤ 800 ∧ sv = .string s ∧ t = .int .i64 (m : Int) ∧ Hid (DC w0 a len cap g wr ov L)) (fun _ _ t _ => (intN t).toNat)
    case atStart => exact ⟨[], _, 3 + x, by simp; omega, by rw [ByteArray.size_append]; show 55 ≤ 55 + s0.size; omega, by rw [ByteArray.size_append]; show 55 + s0.size + 20 * (3 + x) ≤ 800; omega, rfl, by first | rfl | (congr 1; done) | (congr 1; omega), HD2⟩
    case round =>
      clear HD2 hx1 hx2 hw3 hs0
      obtain ⟨L, s, m, hm, hs1, hs2, rfl, rfl, HD⟩ := hrel
      obtain ⟨oa, oc, hov⟩ := HD.out.form
      subst hov
      obtain ⟨n, hn⟩ : ∃ n, n = L.length := ⟨_, rfl⟩
      have HDN := HD.out
      rw [← hn] at hm HDN ⊢
      have HN := dhid hn
      have HD := dhid HDN
      clear hn HDN
      by_cases hp : 0 < m
      · have hpI : (0 : Int) < (m : Int) := by omega
        have hwm : IntKind.i64.wrap ((m : Int) - 1) = ((m - 1 : Nat) : Int) := by rw [IntKind.wrap_i64]; omega
        have hw1 : IntKind.i64.wrap ((n : Int) - 1) = (n : Int) - 1 := by rw [IntKind.wrap_i64]; omega
        have hsI : (s.size : Int) ≤ 800 := by omega
        go_wp2_with fail
        refine (HADD.out _ _ _ _ _ _ HD.out (by omega)).mono ?_
        rintro e w5 (⟨rfl, hd5⟩ | ⟨v5, M, rfl, hM, hd5⟩)
        · have HD5 := dhid hd5
          clear hd5 HD
          go_wp2_with fail
          refine (below_any HS.out HD5.out.rd (s.size : Int) (by omega) (by omega)).mono ?_
          rintro e w6 ⟨⟨x, hx1, hx2, rfl⟩, hr6⟩
          obtain ⟨x, rfl⟩ := Int.eq_ofNat_of_zero_le hx1
          have HD6 := dhid (HD5.out.rd3 hr6)
          have HDD := dhid (HD6.out.rd3 (Rd3.refl HD6.out.rd).drew)
          have hxs : (x : Int) ≤ (s.size : Int) := by omega
          have hxN : x ≤ s.size := by omega
          clear hr6 HD5 hx1 hx2
          obtain ⟨S, hSS⟩ : ∃ S : World → Prop, S = fun _ => True := ⟨_, rfl⟩
          have hSall : ∀ w', S w' := fun w' => by rw [hSS]; trivial
          have hSd := hSall w6.drew
          obtain ⟨A, hA⟩ : ∃ A, A = s.extract 0 x := ⟨_, rfl⟩
          obtain ⟨C, hC⟩ : ∃ C, C = s.extract x s.size := ⟨_, rfl⟩
          have hAs : A.size = x := by rw [hA, ByteArray.size_extract]; omega
          have hCs : C.size = s.size - x := by rw [hC, ByteArray.size_extract]; omega
          clear hSS
          go_wp2_with fail
          refine wp_region_held (S := S) (by kernel_rfl) ?_
          change wpAnyH _ _ _ _ _ _ _ _ (World.drew _)
          refine wpAnyH_take (i := 0) (v := .string s) rfl (by kernel_rfl) (by kernel_rfl) (by kernel_rfl) (fun _ _ _ h => h) (Or.inl ⟨by rfl, by intro w' hS'; go_simp <;> (first | omega | (rw [IntKind.wrap_i64]; omega) | (rw [IntKind.wrap_u64]; omega) | (rw [IntKind.wrap_u32]; omega) | (rw [Int.tmod_eq_emod_of_nonneg (by omega)]) | rfl)⟩) hSd ?_
          (try simp only [List.getElem_toArray, List.getElem_cons_succ, List.getElem_cons_zero, Act.put, List.setIfInBounds_toArray, List.set_cons_zero, List.set_cons_succ])
          refine wpAnyH_take (i := 1) (v := .int .i64 (x : Int)) rfl (by kernel_rfl) (by kernel_rfl) (by kernel_rfl) (fun _ _ _ h => h) (Or.inl ⟨by rfl, by intro w' hS'; go_simp <;> (first | omega | (rw [IntKind.wrap_i64]; omega) | (rw [IntKind.wrap_u64]; omega) | (rw [IntKind.wrap_u32]; omega) | (rw [Int.tmod_eq_emod_of_nonneg (by omega)]) | rfl)⟩) hSd ?_
          (try simp only [List.getElem_toArray, List.getElem_cons_succ, List.getElem_cons_zero, Act.put, List.setIfInBounds_toArray, List.set_cons_zero, List.set_cons_succ])
          refine wpAnyH_take (i := 2) (v := .string A) rfl (by kernel_rfl) (by kernel_rfl) (by kernel_rfl) (fun _ _ _ h => h) (Or.inl ⟨by rfl, by intro w' hS'; go_simp <;> (first | omega | (rw [IntKind.wrap_i64]; omega) | (rw [IntKind.wrap_u64]; omega) | (rw [IntKind.wrap_u32]; omega) | (rw [Int.tmod_eq_emod_of_nonneg (by omega)]) | rfl)⟩) hSd ?_
          (try simp only [List.getElem_toArray, List.getElem_cons_succ, List.getElem_cons_zero, Act.put, List.setIfInBounds_toArray, List.set_cons_zero, List.set_cons_succ])
          refine wpAnyH_take (i := 3) (v := .pointer (some ⟨g, 0, none⟩)) rfl (by kernel_rfl) (by kernel_rfl) (by kernel_rfl) (fun _ _ _ h => h) (Or.inl ⟨by rfl, by intro w' hS'; go_simp <;> (first | omega | (rw [IntKind.wrap_i64]; omega) | (rw [IntKind.wrap_u64]; omega) | (rw [IntKind.wrap_u32]; omega) | (rw [Int.tmod_eq_emod_of_nonneg (by omega)]) | rfl)⟩) hSd ?_
          (try simp only [List.getElem_toArray, List.getElem_cons_succ, List.getElem_cons_zero, Act.put, List.setIfInBounds_toArray, List.set_cons_zero, List.set_cons_succ])
          refine wpAnyH_take (i := 6) (v := .string s) rfl (by kernel_rfl) (by kernel_rfl) (by kernel_rfl) (fun _ _ _ h => h) (Or.inl ⟨by rfl, by intro w' hS'; go_simp <;> (first | omega | (rw [IntKind.wrap_i64]; omega) | (rw [IntKind.wrap_u64]; omega) | (rw [IntKind.wrap_u32]; omega) | (rw [Int.tmod_eq_emod_of_nonneg (by omega)]) | rfl)⟩) hSd ?_
          (try simp only [List.getElem_toArray, List.getElem_cons_succ, List.getElem_cons_zero, Act.put, List.setIfInBounds_toArray, List.set_cons_zero, List.set_cons_succ])
          refine wpAnyH_take (i := 7) (v := .int .i64 (x : Int)) rfl (by kernel_rfl) (by kernel_rfl) (by kernel_rfl) (fun _ _ _ h => h) (Or.inl ⟨by rfl, by intro w' hS'; go_simp <;> (first | omega | (rw [IntKind.wrap_i64]; omega) | (rw [IntKind.wrap_u64]; omega) | (rw [IntKind.wrap_u32]; omega) | (rw [Int.tmod_eq_emod_of_nonneg (by omega)]) | rfl)⟩) hSd ?_
          (try simp only [List.getElem_toArray, List.getElem_cons_succ, List.getElem_cons_zero, Act.put, List.setIfInBounds_toArray, List.set_cons_zero, List.set_cons_succ])
          refine wpAnyH_take (i := 8) (v := .string C) rfl (by kernel_rfl) (by kernel_rfl) (by kernel_rfl) (fun _ _ _ h => h) (Or.inl ⟨by rfl, by intro w' hS'; go_simp <;> (first | omega | (rw [IntKind.wrap_i64]; omega) | (rw [IntKind.wrap_u64]; omega) | (rw [IntKind.wrap_u32]; omega) | (rw [Int.tmod_eq_emod_of_nonneg (by omega)]) | rfl)⟩) hSd ?_
          (try simp only [List.getElem_toArray, List.getElem_cons_succ, List.getElem_cons_zero, Act.put, List.setIfInBounds_toArray, List.set_cons_zero, List.set_cons_succ])
          refine held_stepS (i := 4) (by kernel_rfl) rfl (by rfl) ?_
          go_simp
          refine (text_any HS.out HDD.out.rd).mono ?_
          rintro e w7 ⟨⟨T, hT, rfl⟩, hr7⟩
          have hS7 := hSall w7
          have HD7 := dhid (HDD.out.rd3 hr7)
          have hat : (A ++ T).size = x + T.size := by rw [ByteArray.size_append]; omega
          have y1 : A.size + T.size ≤ 9223372036854775807 := by omega
          have y2 : (A ++ T).size + C.size ≤ 9223372036854775807 := by omega
          have y3 : A.size + T.size + C.size ≤ 9223372036854775807 := by omega
          clear hr7 HDD HD6
          refine ⟨hS7, ?_⟩
          (try simp only [List.getElem_toArray, List.getElem_cons_succ, List.getElem_cons_zero, Act.put, List.setIfInBounds_toArray, List.set_cons_zero, List.set_cons_succ])
          refine wpAnyH_take (i := 5) (v := .string (A ++ T)) rfl (by kernel_rfl) (by kernel_rfl) (by kernel_rfl) (fun _ _ _ h => h) (Or.inl ⟨by rfl, by intro w' hS'; go_simp <;> (first | omega | (rw [IntKind.wrap_i64]; omega) | (rw [IntKind.wrap_u64]; omega) | (rw [IntKind.wrap_u32]; omega) | (rw [Int.tmod_eq_emod_of_nonneg (by omega)]) | rfl)⟩) hS7 ?_
          (try simp only [List.getElem_toArray, List.getElem_cons_succ, List.getElem_cons_zero, Act.put, List.setIfInBounds_toArray, List.set_cons_zero, List.set_cons_succ])
          refine wpAnyH_take (i := 9) (v := .string ((A ++ T) ++ C)) rfl (by kernel_rfl) (by kernel_rfl) (by kernel_rfl) (fun _ _ _ h => h) (Or.inl ⟨by rfl, by intro w' hS'; go_simp <;> (first | omega | (rw [IntKind.wrap_i64]; omega) | (rw [IntKind.wrap_u64]; omega) | (rw [IntKind.wrap_u32]; omega) | (rw [Int.tmod_eq_emod_of_nonneg (by omega)]) | rfl)⟩) hS7 ?_
          (try simp only [List.getElem_toArray, List.getElem_cons_succ, List.getElem_cons_zero, Act.put, List.setIfInBounds_toArray, List.set_cons_zero, List.set_cons_succ])
          refine wpAnyH_take (i := 10) (v := .string ((A ++ T) ++ C)) rfl (by kernel_rfl) (by kernel_rfl) (by kernel_rfl) (fun _ _ _ h => h) (Or.inl ⟨by rfl, by intro w' hS'; go_simp <;> (first | omega | (rw [IntKind.wrap_i64]; omega) | (rw [IntKind.wrap_u64]; omega) | (rw [IntKind.wrap_u32]; omega) | (rw [Int.tmod_eq_emod_of_nonneg (by omega)]) | rfl)⟩) hS7 ?_
          (try simp only [List.getElem_toArray, List.getElem_cons_succ, List.getElem_cons_zero, Act.put, List.setIfInBounds_toArray, List.set_cons_zero, List.set_cons_succ])
          refine wpAnyH_done (by kernel_rfl) ?_ _
          obtain ⟨Q, hQ⟩ : ∃ Q, Q = (A ++ T) ++ C := ⟨_, rfl⟩
          have hQs : Q.size = s.size + T.size := by rw [hQ, ByteArray.size_append]; omega
          rw [← hQ]
          clear hQ hA hC hAs hCs hat y1 y2 y3 hS7 hSd hSall
          go_wp2_with fail
          go_roundw
          case rel => exact ⟨L, Q, m - 1, by rw [← HN.out]; omega, by omega, by omega, rfl, rfl, HD7⟩
          case measure => simp [intN]; omega
        · obtain ⟨a5, c5, rfl⟩ := hd5.form
          rw [hM, ← HN.out] at hd5
          have HM : Hid (M.length = n + 1) := by show M.length = n + 1; rw [hM, ← HN.out]
          have HD5 := dhid hd5
          clear hd5 HD
          rw [hM, ← HN.out]
          clear hM
          go_wp2_with fail
          refine (below_any HS.out HD5.out.rd (s.size : Int) (by omega) (by omega)).mono ?_
          rintro e w6 ⟨⟨x, hx1, hx2, rfl⟩, hr6⟩
          obtain ⟨x, rfl⟩ := Int.eq_ofNat_of_zero_le hx1
          have HD6 := dhid (HD5.out.rd3 hr6)
          have HDD := dhid (HD6.out.rd3 (Rd3.refl HD6.out.rd).drew)
          have hxs : (x : Int) ≤ (s.size : Int) := by omega
          have hxN : x ≤ s.size := by omega
          clear hr6 HD5 hx1 hx2
          obtain ⟨S, hSS⟩ : ∃ S : World → Prop, S = fun _ => True := ⟨_, rfl⟩
          have hSall : ∀ w', S w' := fun w' => by rw [hSS]; trivial
          have hSd := hSall w6.drew
          obtain ⟨A, hA⟩ : ∃ A, A = s.extract 0 x := ⟨_, rfl⟩
          obtain ⟨C, hC⟩ : ∃ C, C = s.extract x s.size := ⟨_, rfl⟩
          have hAs : A.size = x := by rw [hA, ByteArray.size_extract]; omega
          have hCs : C.size = s.size - x := by rw [hC, ByteArray.size_extract]; omega
          clear hSS
          go_wp2_with fail
          refine wp_region_held (S := S) (by kernel_rfl) ?_
          change wpAnyH _ _ _ _ _ _ _ _ (World.drew _)
          refine wpAnyH_take (i := 0) (v := .string s) rfl (by kernel_rfl) (by kernel_rfl) (by kernel_rfl) (fun _ _ _ h => h) (Or.inl ⟨by rfl, by intro w' hS'; go_simp <;> (first | omega | (rw [IntKind.wrap_i64]; omega) | (rw [IntKind.wrap_u64]; omega) | (rw [IntKind.wrap_u32]; omega) | (rw [Int.tmod_eq_emod_of_nonneg (by omega)]) | rfl)⟩) hSd ?_
          (try simp only [List.getElem_toArray, List.getElem_cons_succ, List.getElem_cons_zero, Act.put, List.setIfInBounds_toArray, List.set_cons_zero, List.set_cons_succ])
          refine wpAnyH_take (i := 1) (v := .int .i64 (x : Int)) rfl (by kernel_rfl) (by kernel_rfl) (by kernel_rfl) (fun _ _ _ h => h) (Or.inl ⟨by rfl, by intro w' hS'; go_simp <;> (first | omega | (rw [IntKind.wrap_i64]; omega) | (rw [IntKind.wrap_u64]; omega) | (rw [IntKind.wrap_u32]; omega) | (rw [Int.tmod_eq_emod_of_nonneg (by omega)]) | rfl)⟩) hSd ?_
          (try simp only [List.getElem_toArray, List.getElem_cons_succ, List.getElem_cons_zero, Act.put, List.setIfInBounds_toArray, List.set_cons_zero, List.set_cons_succ])
          refine wpAnyH_take (i := 2) (v := .string A) rfl (by kernel_rfl) (by kernel_rfl) (by kernel_rfl) (fun _ _ _ h => h) (Or.inl ⟨by rfl, by intro w' hS'; go_simp <;> (first | omega | (rw [IntKind.wrap_i64]; omega) | (rw [IntKind.wrap_u64]; omega) | (rw [IntKind.wrap_u32]; omega) | (rw [Int.tmod_eq_emod_of_nonneg (by omega)]) | rfl)⟩) hSd ?_
          (try simp only [List.getElem_toArray, List.getElem_cons_succ, List.getElem_cons_zero, Act.put, List.setIfInBounds_toArray, List.set_cons_zero, List.set_cons_succ])
          refine wpAnyH_take (i := 3) (v := .pointer (some ⟨g, 0, none⟩)) rfl (by kernel_rfl) (by kernel_rfl) (by kernel_rfl) (fun _ _ _ h => h) (Or.inl ⟨by rfl, by intro w' hS'; go_simp <;> (first | omega | (rw [IntKind.wrap_i64]; omega) | (rw [IntKind.wrap_u64]; omega) | (rw [IntKind.wrap_u32]; omega) | (rw [Int.tmod_eq_emod_of_nonneg (by omega)]) | rfl)⟩) hSd ?_
          (try simp only [List.getElem_toArray, List.getElem_cons_succ, List.getElem_cons_zero, Act.put, List.setIfInBounds_toArray, List.set_cons_zero, List.set_cons_succ])
          refine wpAnyH_take (i := 6) (v := .string s) rfl (by kernel_rfl) (by kernel_rfl) (by kernel_rfl) (fun _ _ _ h => h) (Or.inl ⟨by rfl, by intro w' hS'; go_simp <;> (first | omega | (rw [IntKind.wrap_i64]; omega) | (rw [IntKind.wrap_u64]; omega) | (rw [IntKind.wrap_u32]; omega) | (rw [Int.tmod_eq_emod_of_nonneg (by omega)]) | rfl)⟩) hSd ?_
          (try simp only [List.getElem_toArray, List.getElem_cons_succ, List.getElem_cons_zero, Act.put, List.setIfInBounds_toArray, List.set_cons_zero, List.set_cons_succ])
          refine wpAnyH_take (i := 7) (v := .int .i64 (x : Int)) rfl (by kernel_rfl) (by kernel_rfl) (by kernel_rfl) (fun _ _ _ h => h) (Or.inl ⟨by rfl, by intro w' hS'; go_simp <;> (first | omega | (rw [IntKind.wrap_i64]; omega) | (rw [IntKind.wrap_u64]; omega) | (rw [IntKind.wrap_u32]; omega) | (rw [Int.tmod_eq_emod_of_nonneg (by omega)]) | rfl)⟩) hSd ?_
          (try simp only [List.getElem_toArray, List.getElem_cons_succ, List.getElem_cons_zero, Act.put, List.setIfInBounds_toArray, List.set_cons_zero, List.set_cons_succ])
          refine wpAnyH_take (i := 8) (v := .string C) rfl (by kernel_rfl) (by kernel_rfl) (by kernel_rfl) (fun _ _ _ h => h) (Or.inl ⟨by rfl, by intro w' hS'; go_simp <;> (first | omega | (rw [IntKind.wrap_i64]; omega) | (rw [IntKind.wrap_u64]; omega) | (rw [IntKind.wrap_u32]; omega) | (rw [Int.tmod_eq_emod_of_nonneg (by omega)]) | rfl)⟩) hSd ?_
          (try simp only [List.getElem_toArray, List.getElem_cons_succ, List.getElem_cons_zero, Act.put, List.setIfInBounds_toArray, List.set_cons_zero, List.set_cons_succ])
          refine held_stepS (i := 4) (by kernel_rfl) rfl (by rfl) ?_
          go_simp
          refine (text_any HS.out HDD.out.rd).mono ?_
          rintro e w7 ⟨⟨T, hT, rfl⟩, hr7⟩
          have hS7 := hSall w7
          have HD7 := dhid (HDD.out.rd3 hr7)
          have hat : (A ++ T).size = x + T.size := by rw [ByteArray.size_append]; omega
          have y1 : A.size + T.size ≤ 9223372036854775807 := by omega
          have y2 : (A ++ T).size + C.size ≤ 9223372036854775807 := by omega
          have y3 : A.size + T.size + C.size ≤ 9223372036854775807 := by omega
          clear hr7 HDD HD6
          refine ⟨hS7, ?_⟩
          (try simp only [List.getElem_toArray, List.getElem_cons_succ, List.getElem_cons_zero, Act.put, List.setIfInBounds_toArray, List.set_cons_zero, List.set_cons_succ])
          refine wpAnyH_take (i := 5) (v := .string (A ++ T)) rfl (by kernel_rfl) (by kernel_rfl) (by kernel_rfl) (fun _ _ _ h => h) (Or.inl ⟨by rfl, by intro w' hS'; go_simp <;> (first | omega | (rw [IntKind.wrap_i64]; omega) | (rw [IntKind.wrap_u64]; omega) | (rw [IntKind.wrap_u32]; omega) | (rw [Int.tmod_eq_emod_of_nonneg (by omega)]) | rfl)⟩) hS7 ?_
          (try simp only [List.getElem_toArray, List.getElem_cons_succ, List.getElem_cons_zero, Act.put, List.setIfInBounds_toArray, List.set_cons_zero, List.set_cons_succ])
          refine wpAnyH_take (i := 9) (v := .string ((A ++ T) ++ C)) rfl (by kernel_rfl) (by kernel_rfl) (by kernel_rfl) (fun _ _ _ h => h) (Or.inl ⟨by rfl, by intro w' hS'; go_simp <;> (first | omega | (rw [IntKind.wrap_i64]; omega) | (rw [IntKind.wrap_u64]; omega) | (rw [IntKind.wrap_u32]; omega) | (rw [Int.tmod_eq_emod_of_nonneg (by omega)]) | rfl)⟩) hS7 ?_
          (try simp only [List.getElem_toArray, List.getElem_cons_succ, List.getElem_cons_zero, Act.put, List.setIfInBounds_toArray, List.set_cons_zero, List.set_cons_succ])
          refine wpAnyH_take (i := 10) (v := .string ((A ++ T) ++ C)) rfl (by kernel_rfl) (by kernel_rfl) (by kernel_rfl) (fun _ _ _ h => h) (Or.inl ⟨by rfl, by intro w' hS'; go_simp <;> (first | omega | (rw [IntKind.wrap_i64]; omega) | (rw [IntKind.wrap_u64]; omega) | (rw [IntKind.wrap_u32]; omega) | (rw [Int.tmod_eq_emod_of_nonneg (by omega)]) | rfl)⟩) hS7 ?_
          (try simp only [List.getElem_toArray, List.getElem_cons_succ, List.getElem_cons_zero, Act.put, List.setIfInBounds_toArray, List.set_cons_zero, List.set_cons_succ])
          refine wpAnyH_done (by kernel_rfl) ?_ _
          obtain ⟨Q, hQ⟩ : ∃ Q, Q = (A ++ T) ++ C := ⟨_, rfl⟩
          have hQs : Q.size = s.size + T.size := by rw [hQ, ByteArray.size_append]; omega
          rw [← hQ]
          clear hQ hA hC hAs hCs hat y1 y2 y3 hS7 hSd hSall
          go_wp2_with fail
          go_roundw
          case rel => exact ⟨M, Q, m - 1, by rw [HM.out]; omega, by omega, by omega, rfl, rfl, HD7⟩
          case measure => simp [intN]; omega
      · obtain rfl : m = 0 := by omega
        obtain ⟨q, hmx, hq1, hq2⟩ : ∃ q : Int, max 1 ((n : Int) - 2) = q ∧ 1 ≤ q ∧ q ≤ 100 := ⟨_, rfl, by omega, by omega⟩
        have hw2 : IntKind.i64.wrap ((n : Int) - 2) = (n : Int) - 2 := by rw [IntKind.wrap_i64]; omega
        go_wp2_with fail
        refine (below_any HS.out HD.out.rd q (by omega) (by omega)).mono ?_
        rintro e w3 ⟨⟨x, hx1, hx2, rfl⟩, hr3⟩
        have HD3 := dhid (HD.out.rd3 hr3)
        have hw4 : IntKind.i64.wrap (2 + x) = 2 + x := by rw [IntKind.wrap_i64]; omega
        clear hr3 HD
        go_wp2_with fail
        go_ret2
        exact ⟨⟨_, L, 2 + x, by rw [← HN.out]; omega, HD3.out.le, Go.WalkArith.wf_i64 (by omega), rfl, HD3.out.hd⟩, HD3.out.rd.below⟩
end Go.Proofs.Ytpeddaljgmkomaa
