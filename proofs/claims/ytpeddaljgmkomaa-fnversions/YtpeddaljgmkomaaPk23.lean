/-
  Several texts of this seat as one: DtS, AvM, CpS.
-/
import Derived.Test.YtpeddaljgmkomaaPk22
import Derived.Test.YtpeddaljgmkomaaPk16
import Derived.Test.YtpeddaljgmkomaaPk03
import Derived.Test.YtpeddaljgmkomaaPk17
import Derived.Test.YtpeddaljgmkomaaPk20
import Derived.Test.YtpeddaljgmkomaaPk14

/-!   The text of pieces: the specification's. -/
namespace Go.Proofs.Ytpeddaljgmkomaa
open Go.RowKit
set_option linter.unusedVariables false
set_option linter.unusedSimpArgs false
set_option maxRecDepth 100000 in
theorem sl1Put_any (m : Nat) (w : World) (hm : m < 9223372036854775808) : Calls Try.prog 73 #[.int .i64 (m : Int)] w fun e w' => e = .returned (.string (putB m)) ∧ Below w.heap.size w w' := by
  have hw : IntKind.u64.wrap (m : Int) = (m : Int) := by rw [IntKind.wrap_u64]; omega
  have HP : Hid (∀ w, Calls Try.prog 97 #[.int .u64 (m : Int)] w fun e w' => e = .returned (.string (putB m)) ∧ Below w.heap.size w w') := fun w => sput_any m w (by omega)
  go_enter Try.func73, Try.ntmps73
  go_wp2_with fail
  refine (HP.out _).mono ?_
  rintro e w1 ⟨rfl, hb1⟩
  go_wp2_with fail
  go_ret
  exact ⟨rfl, hb1⟩
set_option maxRecDepth 100000 in
set_option maxHeartbeats 4000000 in
theorem sdt_yes (a : Option Addr) (c n : Nat) (F : Nat → PcI) (w : World) (hF : PcLe F n) (hok : pcR F n 4000) (hr : 0 < n → ∃ g, a = some ⟨g, 0, none⟩ ∧ PcRow w g n F) :
    Calls Try.prog 47 #[.slice a n c] w fun e w' => e = .returned (.string (dtB F n n)) ∧ Below w.heap.size w w' := by
  have hnI : (n : Int) ≤ 500 := by have := hok.2.2.1; omega
  have HK : Hid (∀ w, PcArg w (.slice a n c) n F → Calls Try.prog 68 #[.int .i64 4000, .slice a n c] w fun e w' => e = .returned (.bool true) ∧ Below w.heap.size w w') := fun w h => by
    have h2 := spcs_any (.slice a n c) n F 4000 w hF h
    rw [pcB_yes hok] at h2
    exact h2
  have HP : Hid (∀ (m : Nat) w, m < 9223372036854775808 → Calls Try.prog 73 #[.int .i64 (m : Int)] w fun e w' => e = .returned (.string (putB m)) ∧ Below w.heap.size w w') := fun m w h => sl1Put_any m w h
  have HPT : Hid (∀ (s : ByteArray) w, s.size ≤ 1048576 → Calls Try.prog 74 #[.string s] w fun e w' => e = .returned (.string (putTextOut s)) ∧ Below w.heap.size w w') := fun s w h => sputText_any s w (by omega)
  have HR : Hid (∀ w', Below w.heap.size w w' → 0 < n → ∃ g, a = some ⟨g, 0, none⟩ ∧ PcRow w' g n F ∧ g < w.heap.size) := fun w' hb h0 => by
    obtain ⟨g, h1, h2⟩ := hr h0
    exact ⟨g, h1, h2.below hb h2.lt, h2.lt⟩
  have HA : Hid (PcArg w (.slice a n c) n F) := ⟨a, c, rfl, hr⟩
  have HO : Hid (pcR F n 4000 ∧ ∀ i, i < n → (F i).d.size ≤ 1048576) := ⟨hok, hF.d⟩
  have hpn := putB_size (n := n) (by omega)
  clear hr hok hF
  go_enter Try.func47, Try.ntmps47
  go_wp2_with fail
  refine (HK.out _ HA.out).mono ?_
  rintro e w1 ⟨rfl, hb1⟩
  have HB1 : Hid (Below w.heap.size w w1) := hb1
  clear hb1 HA HK
  go_wp2_with fail
  refine (HP.out n _ (by omega)).mono ?_
  rintro e w2 ⟨rfl, hb2⟩
  have HB3 : Hid (Below w.heap.size w w2) := bl3 HB1.out hb2 HB1.out.size
  clear hb2 HB1
  go_wp2_with fail
  go_loopw [3, 4] (fun u v wr => ∃ (i : Nat), i ≤ n ∧ v = .int .i64 (i : Int) ∧ u = .string (dtB F n i) ∧ Hid (Below w.heap.size w wr)) (fun _ v _ => n - (intN v).toNat)
  case atStart => exact ⟨0, by omega, rfl, rfl, HB3⟩
  case round =>
    clear HB3
    obtain ⟨i, hi, rfl, rfl, HB⟩ := hrel
    by_cases hlt : i < n
    · have hltI : (i : Int) < (n : Int) := by omega
      obtain ⟨g, rfl, hrow, hgl⟩ := HR.out _ HB.out (by omega)
      have HGL : Hid (g < w.heap.size) := hgl
      obtain ⟨q, hq⟩ : ∃ q, q = 3 * i := ⟨_, rfl⟩
      have x0 := hrow.c0 i hlt
      have x1 := hrow.c1 i hlt
      have x2 := hrow.c2 i hlt
      rw [← hq] at x0 x1 x2
      have hiq : i * 3 = q := by omega
      have hp := HO.out.1.2.2.2.1 i hlt
      have hdi := HO.out.2 i hlt
      have hle := dtB_size (F := F) (n := n) (i := i) (by omega) (fun j hj => HO.out.2 j (by omega)) (fun j hj => HO.out.1.2.2.2.1 j (by omega))
      have hle2 : (dtB F n i).size ≤ 1000000000 := by omega
      have HY : Hid ((F i).d ≠ ⟨#[]⟩ → dtB F n (i + 1) = dtB F n i ++ putTextOut (F i).d) := fun h => dtB_yes h
      have HN : Hid ((F i).d = ⟨#[]⟩ → dtB F n (i + 1) = ((dtB F n i ++ putTextOut ⟨#[]⟩) ++ putB (F i).f.toNat) ++ putB (F i).l.toNat) := fun h => dtB_no h
      clear hrow hq hle hgl
      generalize F i = p at x0 x1 x2 hp HY HN hdi
      generalize dtB F n i = acc at hle2 HY HN ⊢
      obtain ⟨f, l, d⟩ := p
      simp only at x0 x1 x2 hdi HY HN
      have htx := putT_size hdi
      go_wp2_with fail
      refine (HPT.out d _ hdi).mono ?_
      rintro e w4 ⟨rfl, hb4⟩
      have HB4 : Hid (Below w.heap.size w w4) := bl3 HB.out hb4 HB.out.size
      have y0 : w4.cell? ⟨g, q, none⟩ = some (.int .i64 f) := (HB4.out.cell (p := ⟨g, q, none⟩) HGL.out).trans ((HB.out.cell (p := ⟨g, q, none⟩) HGL.out).symm.trans x0)
      have y1 : w4.cell? ⟨g, q + 1, none⟩ = some (.int .i64 l) := (HB4.out.cell (p := ⟨g, q + 1, none⟩) HGL.out).trans ((HB.out.cell (p := ⟨g, q + 1, none⟩) HGL.out).symm.trans x1)
      have y2 : w4.cell? ⟨g, q + 2, none⟩ = some (.string d) := (HB4.out.cell (p := ⟨g, q + 2, none⟩) HGL.out).trans ((HB.out.cell (p := ⟨g, q + 2, none⟩) HGL.out).symm.trans x2)
      clear hb4 HB x0 x1 x2
      rcases hp with ⟨h, h1, h2, h3, h4⟩ | ⟨h, h1, h2⟩
      · simp only at h h1 h2 h3 h4
        subst h
        obtain ⟨f2, rfl⟩ : ∃ f2 : Nat, f = (f2 : Int) := ⟨f.toNat, by omega⟩
        obtain ⟨l2, rfl⟩ : ∃ l2 : Nat, l = (l2 : Int) := ⟨l.toNat, by omega⟩
        have hN2 := HN.out rfl
        simp only [Int.toNat_natCast] at hN2
        obtain ⟨acc2, hacc⟩ : ∃ acc2, acc2 = acc ++ putTextOut ⟨#[]⟩ := ⟨_, rfl⟩
        have HN2 : Hid (dtB F n (i + 1) = (acc2 ++ putB f2) ++ putB l2) := by rw [hacc]; exact hN2
        have ha2 : acc2.size ≤ 1100000000 := by rw [hacc, ByteArray.size_append]; omega
        have hpf := putB_size (n := f2) (by omega)
        have hpl := putB_size (n := l2) (by omega)
        have hs1 := ByteArray.size_append (a := acc2) (b := putB f2)
        have HACC : Hid (acc2 = acc ++ putTextOut ⟨#[]⟩) := hacc
        obtain ⟨S, hSS⟩ : ∃ S : World → Prop, S = fun w' => Below w.heap.size w w' := ⟨_, rfl⟩
        have HS : Hid _ := hSS
        have hSd : S w4.drew := by rw [hSS]; exact HB4.out.drew
        have HX : Hid (∀ w', S w' → w'.cell? ⟨g, q, none⟩ = some (.int .i64 (f2 : Int)) ∧ w'.cell? ⟨g, q + 1, none⟩ = some (.int .i64 (l2 : Int))) := fun w' hw' => by
          rw [hSS] at hw'
          exact ⟨(hw'.cell (p := ⟨g, q, none⟩) HGL.out).trans ((HB4.out.cell (p := ⟨g, q, none⟩) HGL.out).symm.trans y0), (hw'.cell (p := ⟨g, q + 1, none⟩) HGL.out).trans ((HB4.out.cell (p := ⟨g, q + 1, none⟩) HGL.out).symm.trans y1)⟩
        clear HN HY hN2 hSS hacc
        go_wp2_with fail
        rw [← HACC.out]
        refine wp_region_held (S := S) (by kernel_rfl) ?_
        change wpAnyH _ _ _ _ _ _ _ _ (World.drew _)
        refine wpAnyH_take (i := 0) (v := .string acc2) rfl (by kernel_rfl) (by kernel_rfl) (by kernel_rfl) (fun _ _ _ h => h) (Or.inl ⟨by rfl, by intro w' hS'; go_simp <;> (first | omega | (rw [IntKind.wrap_i64]; omega) | (rw [IntKind.wrap_u64]; omega) | (rw [IntKind.wrap_u32]; omega) | (rw [Int.tmod_eq_emod_of_nonneg (by omega)]) | rfl)⟩) hSd ?_
        (try simp only [List.getElem_toArray, List.getElem_cons_succ, List.getElem_cons_zero, Act.put, List.setIfInBounds_toArray, List.set_cons_zero, List.set_cons_succ])
        refine wpAnyH_take (i := 1) (v := .slice (some ⟨g, 0, none⟩) n c) rfl (by kernel_rfl) (by kernel_rfl) (by kernel_rfl) (fun _ _ _ h => h) (Or.inl ⟨by rfl, by intro w' hS'; go_simp <;> (first | omega | (rw [IntKind.wrap_i64]; omega) | (rw [IntKind.wrap_u64]; omega) | (rw [IntKind.wrap_u32]; omega) | (rw [Int.tmod_eq_emod_of_nonneg (by omega)]) | rfl)⟩) hSd ?_
        (try simp only [List.getElem_toArray, List.getElem_cons_succ, List.getElem_cons_zero, Act.put, List.setIfInBounds_toArray, List.set_cons_zero, List.set_cons_succ])
        refine wpAnyH_take (i := 2) (v := .int .i64 (i : Int)) rfl (by kernel_rfl) (by kernel_rfl) (by kernel_rfl) (fun _ _ _ h => h) (Or.inl ⟨by rfl, by intro w' hS'; go_simp <;> (first | omega | (rw [IntKind.wrap_i64]; omega) | (rw [IntKind.wrap_u64]; omega) | (rw [IntKind.wrap_u32]; omega) | (rw [Int.tmod_eq_emod_of_nonneg (by omega)]) | rfl)⟩) hSd ?_
        (try simp only [List.getElem_toArray, List.getElem_cons_succ, List.getElem_cons_zero, Act.put, List.setIfInBounds_toArray, List.set_cons_zero, List.set_cons_succ])
        refine wpAnyH_take (i := 3) (v := .pointer (some ⟨g, q, none⟩)) rfl (by kernel_rfl) (by kernel_rfl) (by kernel_rfl) (fun _ _ _ h => h) (Or.inl ⟨by rfl, by intro w' hS'; go_simp <;> (first | omega | (rw [IntKind.wrap_i64]; omega) | (rw [IntKind.wrap_u64]; omega) | (rw [IntKind.wrap_u32]; omega) | (rw [Int.tmod_eq_emod_of_nonneg (by omega)]) | rfl)⟩) hSd ?_
        (try simp only [List.getElem_toArray, List.getElem_cons_succ, List.getElem_cons_zero, Act.put, List.setIfInBounds_toArray, List.set_cons_zero, List.set_cons_succ])
        refine wpAnyH_take (i := 4) (v := .pointer (some ⟨g, q, none⟩)) rfl (by kernel_rfl) (by kernel_rfl) (by kernel_rfl) (fun _ _ _ h => h) (Or.inl ⟨by rfl, by intro w' hS'; go_simp <;> (first | omega | (rw [IntKind.wrap_i64]; omega) | (rw [IntKind.wrap_u64]; omega) | (rw [IntKind.wrap_u32]; omega) | (rw [Int.tmod_eq_emod_of_nonneg (by omega)]) | rfl)⟩) hSd ?_
        (try simp only [List.getElem_toArray, List.getElem_cons_succ, List.getElem_cons_zero, Act.put, List.setIfInBounds_toArray, List.set_cons_zero, List.set_cons_succ])
        refine wpAnyH_take (i := 5) (v := .int .i64 (f2 : Int)) rfl (by kernel_rfl) (by kernel_rfl) (by kernel_rfl) (fun _ _ _ h => h) (Or.inl ⟨by rfl, by intro w' hS'; obtain ⟨k5, k6⟩ := HX.out w' hS'; go_simp <;> (first | omega | (rw [IntKind.wrap_i64]; omega) | (rw [IntKind.wrap_u64]; omega) | (rw [IntKind.wrap_u32]; omega) | (rw [Int.tmod_eq_emod_of_nonneg (by omega)]) | rfl)⟩) hSd ?_
        (try simp only [List.getElem_toArray, List.getElem_cons_succ, List.getElem_cons_zero, Act.put, List.setIfInBounds_toArray, List.set_cons_zero, List.set_cons_succ])
        refine wpAnyH_take (i := 8) (v := .slice (some ⟨g, 0, none⟩) n c) rfl (by kernel_rfl) (by kernel_rfl) (by kernel_rfl) (fun _ _ _ h => h) (Or.inl ⟨by rfl, by intro w' hS'; go_simp <;> (first | omega | (rw [IntKind.wrap_i64]; omega) | (rw [IntKind.wrap_u64]; omega) | (rw [IntKind.wrap_u32]; omega) | (rw [Int.tmod_eq_emod_of_nonneg (by omega)]) | rfl)⟩) hSd ?_
        (try simp only [List.getElem_toArray, List.getElem_cons_succ, List.getElem_cons_zero, Act.put, List.setIfInBounds_toArray, List.set_cons_zero, List.set_cons_succ])
        refine wpAnyH_take (i := 9) (v := .int .i64 (i : Int)) rfl (by kernel_rfl) (by kernel_rfl) (by kernel_rfl) (fun _ _ _ h => h) (Or.inl ⟨by rfl, by intro w' hS'; go_simp <;> (first | omega | (rw [IntKind.wrap_i64]; omega) | (rw [IntKind.wrap_u64]; omega) | (rw [IntKind.wrap_u32]; omega) | (rw [Int.tmod_eq_emod_of_nonneg (by omega)]) | rfl)⟩) hSd ?_
        (try simp only [List.getElem_toArray, List.getElem_cons_succ, List.getElem_cons_zero, Act.put, List.setIfInBounds_toArray, List.set_cons_zero, List.set_cons_succ])
        refine wpAnyH_take (i := 10) (v := .pointer (some ⟨g, q, none⟩)) rfl (by kernel_rfl) (by kernel_rfl) (by kernel_rfl) (fun _ _ _ h => h) (Or.inl ⟨by rfl, by intro w' hS'; go_simp <;> (first | omega | (rw [IntKind.wrap_i64]; omega) | (rw [IntKind.wrap_u64]; omega) | (rw [IntKind.wrap_u32]; omega) | (rw [Int.tmod_eq_emod_of_nonneg (by omega)]) | rfl)⟩) hSd ?_
        (try simp only [List.getElem_toArray, List.getElem_cons_succ, List.getElem_cons_zero, Act.put, List.setIfInBounds_toArray, List.set_cons_zero, List.set_cons_succ])
        refine wpAnyH_take (i := 11) (v := .pointer (some ⟨g, q + 1, none⟩)) rfl (by kernel_rfl) (by kernel_rfl) (by kernel_rfl) (fun _ _ _ h => h) (Or.inl ⟨by rfl, by intro w' hS'; go_simp <;> (first | omega | (rw [IntKind.wrap_i64]; omega) | (rw [IntKind.wrap_u64]; omega) | (rw [IntKind.wrap_u32]; omega) | (rw [Int.tmod_eq_emod_of_nonneg (by omega)]) | rfl)⟩) hSd ?_
        (try simp only [List.getElem_toArray, List.getElem_cons_succ, List.getElem_cons_zero, Act.put, List.setIfInBounds_toArray, List.set_cons_zero, List.set_cons_succ])
        refine wpAnyH_take (i := 12) (v := .int .i64 (l2 : Int)) rfl (by kernel_rfl) (by kernel_rfl) (by kernel_rfl) (fun _ _ _ h => h) (Or.inl ⟨by rfl, by intro w' hS'; obtain ⟨k5, k6⟩ := HX.out w' hS'; go_simp <;> (first | omega | (rw [IntKind.wrap_i64]; omega) | (rw [IntKind.wrap_u64]; omega) | (rw [IntKind.wrap_u32]; omega) | (rw [Int.tmod_eq_emod_of_nonneg (by omega)]) | rfl)⟩) hSd ?_
        (try simp only [List.getElem_toArray, List.getElem_cons_succ, List.getElem_cons_zero, Act.put, List.setIfInBounds_toArray, List.set_cons_zero, List.set_cons_succ])
        refine held_stepS (i := 6) (by kernel_rfl) rfl (by rfl) ?_
        go_simp
        refine (HP.out f2 _ (by omega)).mono ?_
        rintro e w5 ⟨rfl, hb⟩
        have hSw5 : S w5 := by rw [HS.out]; have hx := hSd; rw [HS.out] at hx; exact bl3 hx hb hx.size
        clear hb
        refine ⟨hSw5, ?_⟩
        (try simp only [List.getElem_toArray, List.getElem_cons_succ, List.getElem_cons_zero, Act.put, List.setIfInBounds_toArray, List.set_cons_zero, List.set_cons_succ])
        refine wpAnyH_take (i := 7) (v := .string (acc2 ++ putB f2)) rfl (by kernel_rfl) (by kernel_rfl) (by kernel_rfl) (fun _ _ _ h => h) (Or.inl ⟨by rfl, by intro w' hS'; go_simp <;> (first | omega | (rw [IntKind.wrap_i64]; omega) | (rw [IntKind.wrap_u64]; omega) | (rw [IntKind.wrap_u32]; omega) | (rw [Int.tmod_eq_emod_of_nonneg (by omega)]) | rfl)⟩) hSw5 ?_
        (try simp only [List.getElem_toArray, List.getElem_cons_succ, List.getElem_cons_zero, Act.put, List.setIfInBounds_toArray, List.set_cons_zero, List.set_cons_succ])
        refine held_stepS (i := 13) (by kernel_rfl) rfl (by rfl) ?_
        go_simp
        refine (HP.out l2 _ (by omega)).mono ?_
        rintro e w6 ⟨rfl, hb⟩
        have hSw6 : S w6 := by rw [HS.out]; have hx := hSw5; rw [HS.out] at hx; exact bl3 hx hb hx.size
        clear hb
        refine ⟨hSw6, ?_⟩
        (try simp only [List.getElem_toArray, List.getElem_cons_succ, List.getElem_cons_zero, Act.put, List.setIfInBounds_toArray, List.set_cons_zero, List.set_cons_succ])
        refine wpAnyH_take (i := 14) (v := .string ((acc2 ++ putB f2) ++ putB l2)) rfl (by kernel_rfl) (by kernel_rfl) (by kernel_rfl) (fun _ _ _ h => h) (Or.inl ⟨by rfl, by intro w' hS'; go_simp <;> (first | omega | (rw [IntKind.wrap_i64]; omega) | (rw [IntKind.wrap_u64]; omega) | (rw [IntKind.wrap_u32]; omega) | (rw [Int.tmod_eq_emod_of_nonneg (by omega)]) | rfl)⟩) hSw6 ?_
        (try simp only [List.getElem_toArray, List.getElem_cons_succ, List.getElem_cons_zero, Act.put, List.setIfInBounds_toArray, List.set_cons_zero, List.set_cons_succ])
        refine wpAnyH_take (i := 15) (v := .string ((acc2 ++ putB f2) ++ putB l2)) rfl (by kernel_rfl) (by kernel_rfl) (by kernel_rfl) (fun _ _ _ h => h) (Or.inl ⟨by rfl, by intro w' hS'; go_simp <;> (first | omega | (rw [IntKind.wrap_i64]; omega) | (rw [IntKind.wrap_u64]; omega) | (rw [IntKind.wrap_u32]; omega) | (rw [Int.tmod_eq_emod_of_nonneg (by omega)]) | rfl)⟩) hSw6 ?_
        (try simp only [List.getElem_toArray, List.getElem_cons_succ, List.getElem_cons_zero, Act.put, List.setIfInBounds_toArray, List.set_cons_zero, List.set_cons_succ])
        refine wpAnyH_done (by kernel_rfl) ?_ _
        have HBE : Hid (Below w.heap.size w w6) := by have hx := hSw6; rw [HS.out] at hx; exact hx
        go_wp2_with fail
        go_roundw
        case rel => exact ⟨i + 1, by omega, by go_num, by rw [HN2.out]; try rfl, HBE⟩
        case measure => simp [intN]; omega
      · simp only at h h1 h2
        have HNE : Hid (dtB F n (i + 1) = acc ++ putTextOut d) := HY.out h
        have he := d_ne h
        clear h HN HY
        go_wp2_with fail
        go_roundw
        case rel => exact ⟨i + 1, by omega, by go_num, by rw [HNE.out]; try rfl, HB4⟩
        case measure => simp [intN]; omega
    · obtain rfl : i = n := by omega
      go_wp2_with fail
      go_ret
      exact ⟨rfl, HB.out⟩
set_option maxRecDepth 100000 in
theorem sdt_no (v : Value) (n : Nat) (F : Nat → PcI) (w : World) (hF : PcLe F n) (hok : ¬ pcR F n 4000) (hr : PcArg w v n F) :
    Calls Try.prog 47 #[v] w fun e w' => e = .returned (.string ⟨#[]⟩) ∧ Below w.heap.size w w' := by
  have HK : Hid (Calls Try.prog 68 #[.int .i64 4000, v] w fun e w' => e = .returned (.bool false) ∧ Below w.heap.size w w') := by
    have h2 := spcs_any v n F 4000 w hF hr
    rw [pcB_no hok] at h2
    exact h2
  obtain ⟨a, c, rfl, _⟩ := hr
  clear hok hF
  go_enter Try.func47, Try.ntmps47
  go_wp2_with fail
  refine HK.out.mono ?_
  rintro e w1 ⟨rfl, hb1⟩
  go_wp2_with fail
  go_ret
  exact ⟨rfl, hb1⟩
theorem sdt_any (v : Value) (n : Nat) (F : Nat → PcI) (w : World) (hF : PcLe F n) (hr : PcArg w v n F) :
    Calls Try.prog 47 #[v] w fun e w' => e = .returned (.string (dtV F n)) ∧ Below w.heap.size w w' := by
  by_cases h : pcR F n 4000
  · rw [dtV_yes h]
    obtain ⟨a, c, rfl, hr⟩ := hr
    exact sdt_yes a c n F w hF h hr
  · rw [dtV_no h]
    exact sdt_no v n F w hF h hr
end Go.Proofs.Ytpeddaljgmkomaa

/-!   A link behind the others: in memory; what AddVersion answers. -/
namespace Go.Proofs.Ytpeddaljgmkomaa
open Go.RowKit
set_option linter.unusedVariables false
set_option linter.unusedSimpArgs false
theorem wpList_append_lk {P : Program} {w0 W : World} {ops : Array Oper} {rest : List Oper} {o : Oper} {a : Act} {Q : Exit → Act → World → Prop} (hgd : o.guard = none) (s x : Operand) (t : TypeId)
    (ho : o.op = .call { callee := .builtin .append, args := #[s, x], argTypes := #[t, t] })
    (lo : Nat) (i : TypeInfo) (z : Value) (ht : P.underlying t = some (.slice 54)) (hi : P.info? 54 = some i) (hz : i.zero = some z)
    (hsize : i.size = 3) (hby : i.bytes = 48) (hzs : z.cells.size = 3)
    (v : Value) (n : Nat) (us : List Value) (ds : List Dd) (hs : a.eval s = v) (h : Gl w0 lo 54 3 isPc v n us ds) (hn : n ≤ 1000) (hlo : lo ≤ w0.heap.size) (hb : Below w0.heap.size w0 W)
    (b : Int) (d : ByteArray) (p : List PcI) (sa : Option Addr) (sn sc : Nat) (new : Own W w0.heap.size (pcsD p) (.slice sa sn sc)) (hx : a.eval x = .slice (some ⟨W.heap.size, 0, none⟩) 1 1)
    (K : ∀ v' us' w', Gl w' lo 54 3 isPc v' (n + 1) us' (ds ++ lkDs ⟨b, d, p⟩) → (∀ B w00, Below B w00 W → B ≤ lo → Below B w00 w') → wpList P ops Q rest (a.put o.dst v') w') : wpList P ops Q (o :: rest) a (W.alloc (.cells #[.int .i64 b, .string d, .slice sa sn sc] 54)) := by
  have hA : Below W.heap.size W (W.alloc (.cells #[.int .i64 b, .string d, .slice sa sn sc] 54)) := (Below.refl _ _).alloc (Nat.le_refl _) _
  have hb2 := dblow hb hA hb.size
  have hrow := (h.call hb2).row
  have hlo2 : lo ≤ (W.alloc (.cells #[.int .i64 b, .string d, .slice sa sn sc] 54)).heap.size := Nat.le_trans hlo hb2.size
  refine wpList_append_own _ hgd s x t ho lo 54 i z 3 48 ht hi hz hsize hby hzs (by decide) v n us hs hrow ⟨W.heap.size, 0, none⟩ 1 1 [.int .i64 b, .string d, .slice sa sn sc] hx rfl (cell_three_at rfl) (three_lk _ _ _ _ _) (by unfold maxLen; omega) (by omega) hlo2 ?_
  intro v' w' ho' hg _
  refine K v' _ w' (h.grow hb2 hlo ((lk_new new).under hA) (lkDs_ty _) ho' hg) fun B w00 hB hBl => ?_
  exact (dblow hB hA (Nat.le_trans hBl (Nat.le_trans hlo hb.size))).grown hg (Nat.le_trans hBl hlo2) (fun k hk => Nat.le_trans hBl (hrow.lt k hk).1)
theorem lks_snoc (L : List LkI) (x : LkI) : L.flatMap lkDs ++ lkDs x = (L ++ [x]).flatMap lkDs := by rw [List.flatMap_append]; simp
theorem gl_lks {w : World} {lo n : Nat} {v : Value} {us : List Value} {L : List LkI} {x : LkI} (h : Gl w lo 54 3 isPc v (n + 1) us (L.flatMap lkDs ++ lkDs x)) (hn : n = L.length) : Own w lo (lksD (L ++ [x])) v := by
  rw [lks_snoc] at h
  exact h.own (by omega) (by rw [fm_len lkDs_len, List.length_append, hn]; rfl)
/-- a delta that is shorter -/
noncomputable def shR (o s : ByteArray) : Option (List PcI) := (doD o s).bind fun P => if (dtV (pcF P) P.length).size < s.size then some P else none
theorem doD_good {o s : ByteArray} {P : List PcI} (h : doD o s = some P) : P.length ≤ 500 ∧ pcR (pcF P) P.length (o.size : Int) ∧ patB o (pcF P) P.length = s ∧ o.size ≤ 4000 ∧ s.size ≤ 4000 := by
  unfold doD at h
  split at h
  · cases h
  · split at h
    · cases h
    · injection h with h
      subst h
      have h1 := doL_good o s (by omega) (by omega) (by omega)
      exact ⟨by omega, h1.1, h1.2, by omega, by omega⟩
theorem pcLe_of {P : List PcI} {old : Int} (h : pcR (pcF P) P.length old) : PcLe (pcF P) P.length := by
  refine ⟨by have := h.2.2.1; omega, fun i hi => ?_⟩
  have h1 := h.2.2.2.1 i hi
  by_cases hd : (pcF P i).d = ⟨#[]⟩
  · rw [hd]; decide
  · have h2 := pcSum_mono (F := pcF P) (i := i + 1) (n := P.length) (by omega) h.2.2.2.1
    have h3 : 0 ≤ pcSum (pcF P) i := by
      have : ∀ j, j ≤ P.length → 0 ≤ pcSum (pcF P) j := by
        intro j
        induction j with
        | zero => intro _; exact Int.le_refl _
        | succ j ih =>
          intro hj
          have h4 := ih (by omega)
          have h5 := pcP_pos (h.2.2.2.1 j (by omega))
          show 0 ≤ pcSum (pcF P) j + pcSz (pcF P j)
          omega
      exact this i (by omega)
    have h4 : pcSum (pcF P) (i + 1) = pcSum (pcF P) i + pcSz (pcF P i) := rfl
    have h5 := pcSz_yes hd
    have h6 := h.2.2.2.2
    omega
open Classical in
/-- the link that AddVersion puts behind -/
noncomputable def avL (V : List VerI) (s : ByteArray) (k : Int) : LkI :=
  match (if 0 ≤ k then V[k.toNat]? else none) with
  | some o => if o.d < 6 then (match shR o.t s with | some P => ⟨k, ⟨#[]⟩, P⟩ | none => ⟨-1, s, []⟩) else ⟨-1, s, []⟩
  | none => ⟨-1, s, []⟩
open Classical in
noncomputable def avR (L : List LkI) (s : ByteArray) (k : Int) : Option (List LkI) := (vAll L).bind fun V => if L.length < 30 ∧ s.size ≤ 4000 ∧ -1 ≤ k ∧ k ≤ (L.length : Int) - 1 then some (L ++ [avL V s k]) else none
theorem avR_none {L : List LkI} {s : ByteArray} {k : Int} (h : vAll L = none) : avR L s k = none := by unfold avR; rw [h]; rfl
theorem avR_no {L : List LkI} {s : ByteArray} {k : Int} (h : ¬ (L.length < 30 ∧ s.size ≤ 4000 ∧ -1 ≤ k ∧ k ≤ (L.length : Int) - 1)) : avR L s k = none := by
  unfold avR
  cases vAll L with
  | none => rfl
  | some V => exact if_neg h
theorem avR_yes {L : List LkI} {s : ByteArray} {k : Int} {V : List VerI} (hA : vAll L = some V) (h : L.length < 30 ∧ s.size ≤ 4000 ∧ -1 ≤ k ∧ k ≤ (L.length : Int) - 1) : avR L s k = some (L ++ [avL V s k]) := by
  unfold avR; rw [hA]; exact if_pos h
theorem avL_whole {V : List VerI} {s : ByteArray} {k : Int} (h : ¬ 0 ≤ k) : avL V s k = ⟨-1, s, []⟩ := by unfold avL; rw [if_neg h]
theorem avL_deep {V : List VerI} {s : ByteArray} {k : Int} {o : VerI} (h : 0 ≤ k) (ho : V[k.toNat]? = some o) (hd : ¬ o.d < 6) : avL V s k = ⟨-1, s, []⟩ := by unfold avL; rw [if_pos h, ho]; exact if_neg hd
theorem avL_long {V : List VerI} {s : ByteArray} {k : Int} {o : VerI} (h : 0 ≤ k) (ho : V[k.toNat]? = some o) (hr : shR o.t s = none) : avL V s k = ⟨-1, s, []⟩ := by
  unfold avL; rw [if_pos h, ho]
  show (if o.d < 6 then _ else _) = _
  split
  · rw [hr]
  · rfl
theorem avL_delta {V : List VerI} {s : ByteArray} {k : Int} {o : VerI} {P : List PcI} (h : 0 ≤ k) (ho : V[k.toNat]? = some o) (hd : o.d < 6) (hr : shR o.t s = some P) : avL V s k = ⟨k, ⟨#[]⟩, P⟩ := by
  unfold avL; rw [if_pos h, ho]
  show (if o.d < 6 then _ else _) = _
  rw [if_pos hd, hr]
theorem shR_doD {o s : ByteArray} {P : List PcI} (h : shR o s = some P) : doD o s = some P ∧ (dtV (pcF P) P.length).size < s.size := by
  unfold shR at h
  cases hd : doD o s with
  | none => rw [hd] at h; cases h
  | some Q =>
    rw [hd] at h
    have h : (if (dtV (pcF Q) Q.length).size < s.size then some Q else none) = some P := h
    split at h
    · rename_i h1
      injection h with h
      subst h
      exact ⟨rfl, h1⟩
    · cases h
theorem av_bd {L : List LkI} {s : ByteArray} {k : Int} (hl : LkLe L) : ((avR L s k).getD []).length ≤ 1048576 ∧ (∀ x ∈ (avR L s k).getD [], x.p.length ≤ 1048576) ∧ 1 + lkMN ((avR L s k).getD []) ≤ 4000000 := by
  by_cases hc : L.length < 30 ∧ s.size ≤ 4000 ∧ -1 ≤ k ∧ k ≤ (L.length : Int) - 1
  · cases hA : vAll L with
    | none => rw [avR_none hA]; exact bd_none
    | some V =>
      rw [avR_yes hA hc]
      refine lkMN_small (by show (L ++ [avL V s k]).length ≤ 31; simp; omega) fun x hx => ?_
      rcases List.mem_append.1 hx with hx | hx
      · exact (lkG_of hl hA x hx).len
      · have e : x = avL V s k := by simpa using hx
        subst e
        unfold avL
        split
        · split
          · split
            · rename_i P hP
              exact (doD_good (shR_doD hP).1).1
            · exact Nat.zero_le _
          · exact Nat.zero_le _
        · exact Nat.zero_le _
  · rw [avR_no hc]; exact bd_none
end Go.Proofs.Ytpeddaljgmkomaa

/-!   Links copied: the specification's. -/
namespace Go.Proofs.Ytpeddaljgmkomaa
open Go.RowKit
set_option linter.unusedVariables false
set_option linter.unusedSimpArgs false
theorem run_append_none_c {P : Program} {w : World} (base : Nat) (t ty e : TypeId) (i : TypeInfo) (size : Nat) (ht : P.underlying t = some (.slice e)) (hi : P.info? e = some i)
    (v : Value) (n c : Nat) (xs : List Value) (hown : w.ownsRow base e size v n xs) :
    (Builtin.append_ #[t, t] ty #[v, .slice none 0 c]).run P w = .ok v w := by
  rcases hown.2 with ⟨rfl, rfl⟩ | ⟨g, cap, cur, rfl, _, _, hnc, _⟩
  · simp [Builtin.append_, run_underlying ht, sizeOf, typeInfo, hi, Builtin.lenOf, Builtin.firstCells]
  · simp [Builtin.append_, run_underlying ht, sizeOf, typeInfo, hi, Builtin.lenOf, Builtin.firstCells, hnc, storeCells]
theorem add_zero_at (g j : Nat) : (⟨g, 0, none⟩ : Addr).add j = ⟨g, j, none⟩ := by
  unfold Addr.add
  by_cases h0 : j = 0
  · subst h0; simp
  · simp [h0]
theorem pcC_cell {M : List PcI} {j : Nat} {u : Value} (h : (pcC M)[j]? = some u) : ∃ i, i < M.length ∧ ((j = 3 * i ∧ u = .int .i64 (pcF M i).f) ∨ (j = 3 * i + 1 ∧ u = .int .i64 (pcF M i).l) ∨ (j = 3 * i + 2 ∧ u = .string (pcF M i).d)) := by
  have hj := (List.getElem?_eq_some_iff.1 h).1
  rw [pcC_len] at hj
  refine ⟨j / 3, by omega, ?_⟩
  obtain ⟨c0, c1, c2⟩ := pcC_at M (j / 3) (by omega)
  rcases (show j = 3 * (j / 3) ∨ j = 3 * (j / 3) + 1 ∨ j = 3 * (j / 3) + 2 by omega) with e | e | e
  · rw [e, c0] at h; exact Or.inl ⟨e, (Option.some.inj h).symm⟩
  · rw [e, c1] at h; exact Or.inr (Or.inl ⟨e, (Option.some.inj h).symm⟩)
  · rw [e, c2] at h; exact Or.inr (Or.inr ⟨e, (Option.some.inj h).symm⟩)
theorem pcArg_cells {w : World} {g : Nat} {M : List PcI} (h : PcRow w g M.length (pcF M)) (j : Nat) (u : Value) (hu : (pcC M)[j]? = some u) : w.cell? ((⟨g, 0, none⟩ : Addr).add j) = some u := by
  rw [add_zero_at]
  obtain ⟨i, hi, ⟨e, rfl⟩ | ⟨e, rfl⟩ | ⟨e, rfl⟩⟩ := pcC_cell hu
  · rw [e]; exact h.c0 i hi
  · rw [e]; exact h.c1 i hi
  · rw [e]; exact h.c2 i hi
theorem wp_append_pcA {P : Program} {w : World} {o : Oper} {a : Act} {K : Act → World → Prop} {Q : Exit → Act → World → Prop} (s x : Operand) (t : TypeId)
    (ho : o.op = .call { callee := .builtin .append, args := #[s, x], argTypes := #[t, t] })
    (base : Nat) (i : TypeInfo) (z : Value) (bytes : Nat) (ht : P.underlying t = some (.slice 89)) (hi : P.info? 89 = some i) (hz : i.zero = some z)
    (hsize : i.size = 3) (hby : i.bytes = bytes) (hzs : z.cells.size = 3)
    (v vx : Value) (L M : List PcI) (hs : a.eval s = v) (hown : w.ownsRow base 89 3 v L.length (pcC L)) (hx : a.eval x = vx) (hsrc : PcArg w vx M.length (pcF M))
    (h63 : L.length + M.length ≤ maxLen) (hbytes : (L.length + M.length) * bytes ≤ 140737488355328) (hbase : base ≤ w.heap.size)
    (h : ∀ v' w', w'.ownsRow base 89 3 v' (L ++ M).length (pcC (L ++ M)) → w.grownBy w' v.ownBlock → K (a.put o.dst v') w') : o.wp P a w K Q := by
  obtain ⟨b, c, rfl, hb⟩ := hsrc
  by_cases h0 : 0 < M.length
  · obtain ⟨g, rfl, hg⟩ := hb h0
    exact wp_append_own w s x t ho base 89 i z 3 bytes ht hi hz hsize hby hzs (by decide) v L.length (pcC L) hs hown ⟨g, 0, none⟩ M.length c (pcC M) hx ((pcC_len M).trans (Nat.mul_comm _ _)) (pcArg_cells hg) (pcC_one M) h63 hbytes hbase
      (fun v' w' h1 h2 _ => h v' w' (by rw [← pcC_app, List.length_append]; exact h1) h2)
  · have e0 : M = [] := List.length_eq_zero_iff.1 (by omega)
    subst e0
    cases b with
    | none =>
      have hrun := run_append_none_c (P := P) (w := w) base t o.type 89 i 3 ht hi v L.length c (pcC L) hown
      have h2 := h v w (by rw [List.append_nil]; exact hown) (World.grownBy.refl _ _)
      unfold Oper.wp
      have hx' : a.eval x = .slice none 0 c := hx
      simp [execOp, ho, resolve, invoke, builtin, hs, hx', hrun, Result.andThen]
      exact h2
    | some ad =>
      exact wp_append_own w s x t ho base 89 i z 3 bytes ht hi hz hsize hby hzs (by decide) v L.length (pcC L) hs hown ad 0 c [] hx rfl (fun j u hj => by simp at hj) (fun u hu => by cases hu) h63 hbytes hbase
        (fun v' w' h1 h2 _ => h v' w' (by rw [List.append_nil]; rw [List.append_nil] at h1; exact h1) h2)
theorem wpList_append_pcA {P : Program} {w : World} {ops : Array Oper} {rest : List Oper} {o : Oper} {a : Act} {Q : Exit → Act → World → Prop} (hgd : o.guard = none) (s x : Operand) (t : TypeId)
    (ho : o.op = .call { callee := .builtin .append, args := #[s, x], argTypes := #[t, t] })
    (base : Nat) (i : TypeInfo) (z : Value) (bytes : Nat) (ht : P.underlying t = some (.slice 89)) (hi : P.info? 89 = some i) (hz : i.zero = some z)
    (hsize : i.size = 3) (hby : i.bytes = bytes) (hzs : z.cells.size = 3)
    (v vx : Value) (L M : List PcI) (hs : a.eval s = v) (hown : w.ownsRow base 89 3 v L.length (pcC L)) (hx : a.eval x = vx) (hsrc : PcArg w vx M.length (pcF M))
    (h63 : L.length + M.length ≤ maxLen) (hbytes : (L.length + M.length) * bytes ≤ 140737488355328) (hbase : base ≤ w.heap.size)
    (h : ∀ v' w', w'.ownsRow base 89 3 v' (L ++ M).length (pcC (L ++ M)) → w.grownBy w' v.ownBlock → wpList P ops Q rest (a.put o.dst v') w') : wpList P ops Q (o :: rest) a w :=
  wpList_plain hgd fun _ hK => wp_append_pcA s x t ho base i z bytes ht hi hz hsize hby hzs v vx L M hs hown hx hsrc h63 hbytes hbase fun v' w' h1 h2 => hK _ _ (h v' w' h1 h2)
set_option maxRecDepth 100000 in
set_option maxHeartbeats 1000000 in
theorem scpLk_some (g c n : Nat) (L : List LkI) (hLn : n = L.length) (w : World) (hn : n ≤ 30) (hG : ∀ x ∈ L, LkG x) (hg : LkCells w g L) :
    Calls Try.prog 45 #[.slice (some ⟨g, 0, none⟩) n c] w fun e w' => (∃ v us, e = .returned v ∧ Gl w' w.heap.size 54 3 isPc v n us (L.flatMap lkDs)) ∧ Below w.heap.size w w' := by
  have hnI : (n : Int) ≤ 30 := by omega
  obtain ⟨i0, hi0, hz0, hz1, hz2⟩ := info_parts Try.infLk
  obtain ⟨iP, hiP, hzP0, hzP1, hzP2⟩ := info_parts Try.infP
  have HX : Hid (n = L.length ∧ (∀ x ∈ L, LkG x) ∧ LkCells w g L) := ⟨hLn, hG, hg⟩
  have HST : Hid (Gl (w.alloc (.cells #[] 54)) w.heap.size 54 3 isPc (.slice (some ⟨w.heap.size, 0, none⟩) 0 0) 0 [] [] ∧ Below w.heap.size w (w.alloc (.cells #[] 54))) :=
    ⟨⟨World.ownsRow_made w #[] 0 (Nat.le_refl _) (by unfold maxLen; omega) rfl, Nst.nil _ _, fun d hd => (by cases hd), by unfold isPc; decide⟩, (Below.refl _ _).alloc (Nat.le_refl _) _⟩
  clear hLn hG hg
  go_enter Try.func45, Try.ntmps45
  go_wp2_with fail
  go_loopw [3, 4] (fun v x wr => ∃ (i : Nat) (us : List Value), i ≤ n ∧ x = .int .i64 (i : Int) ∧ Hid (Gl wr w.heap.size 54 3 isPc v i us ((L.take i).flatMap lkDs) ∧ Below w.heap.size w wr)) (fun _ x _ => n - (intN x).toNat)
  case atStart => exact ⟨0, [], by omega, rfl, HST⟩
  case round =>
    clear HST
    obtain ⟨i, us, hi, rfl, HO⟩ := hrel
    by_cases hlt : i < n
    · have hltI : (i : Int) < (n : Int) := by omega
      have hx := List.getElem?_eq_getElem (l := L) (i := i) (by have := HX.out.1; omega)
      have hgx := HX.out.2.1 _ (List.mem_of_getElem? hx)
      obtain ⟨pv, bs, x0, x1, x2, hd⟩ := HX.out.2.2.2 i _ hx
      have hgl := HX.out.2.2.1
      generalize L[i]'_ = x at hx hgx x0 x1 x2 hd
      have HSTP : Hid ((L.take (i + 1)).flatMap lkDs = (L.take i).flatMap lkDs ++ lkDs x) := fm_take lkDs hx
      obtain ⟨q, hq⟩ : ∃ q, q = 3 * i := ⟨_, rfl⟩
      have hiq : i * 3 = q := by omega
      rw [← hq] at x0 x1 x2
      rw [← HO.out.2.cell (p := ⟨g, q, none⟩) hgl] at x0
      rw [← HO.out.2.cell (p := ⟨g, q + 1, none⟩) hgl] at x1
      rw [← HO.out.2.cell (p := ⟨g, q + 2, none⟩) hgl] at x2
      obtain ⟨b, d, p⟩ := x
      simp only at x0 x1 x2 hd
      have hpa0 := pcs_arg hd
      have HPA : Hid (∀ w', Below w.heap.size w w' → PcArg w' pv p.length (pcF p)) := fun w' hb => hpa0.below hb
      obtain ⟨a1, c1, rfl, _⟩ := hpa0
      have hpl := hgx.len
      simp only at hpl
      obtain ⟨va0, vc0, hva⟩ : ∃ a0 c0, u3 = .slice a0 i c0 := by
        have h := HO.out.1
        obtain ⟨_, ⟨h1, h2⟩ | ⟨g1, cap, cur, h1, _⟩⟩ := h.row
        · exact ⟨_, _, by rw [h1, h2]⟩
        · exact ⟨_, _, h1⟩
      subst hva
      obtain ⟨np, hnp⟩ : ∃ np, np = p.length := ⟨_, rfl⟩
      rw [← hnp] at x2 HPA hpl
      have HNP := dhid hnp
      have HWX : Hid (Below wr.heap.size wr ((wr.alloc (.cells #[.int .i64 b, .string d, .slice a1 np c1] 54)).alloc (.cells #[] 89))) := allocs_low [_, _] wr
      have HRX : Hid (((wr.alloc (.cells #[.int .i64 b, .string d, .slice a1 np c1] 54)).alloc (.cells #[] 89)).heap[wr.heap.size]? = some (.cells #[.int .i64 b, .string d, .slice a1 np c1] 54 (0, 0))) := by
        have h := allocs_at [.cells #[.int .i64 b, .string d, .slice a1 np c1] 54, .cells #[] 89] wr 0 (by simp)
        exact h
      have HOP : Hid (((wr.alloc (.cells #[.int .i64 b, .string d, .slice a1 np c1] 54)).alloc (.cells #[] 89)).ownsRow (wr.heap.size + 1) 89 3 (.slice (some ⟨wr.heap.size + 1, 0, none⟩) 0 0) ([] : List PcI).length (pcC [])) := by
        have h := World.ownsRow_made (base := wr.heap.size + 1) (e := 89) (size := 3) (wr.alloc (.cells #[.int .i64 b, .string d, .slice a1 np c1] 54)) #[] 0 (by simp) (by unfold maxLen; omega) rfl
        have e1 : (wr.alloc (.cells #[.int .i64 b, .string d, .slice a1 np c1] 54)).heap.size = wr.heap.size + 1 := by simp
        rw [e1] at h
        exact h
      have HSRC : Hid (PcArg ((wr.alloc (.cells #[.int .i64 b, .string d, .slice a1 np c1] 54)).alloc (.cells #[] 89)) (.slice a1 np c1) p.length (pcF p)) := by
        have h := HPA.out _ (dblow HO.out.2 HWX.out HO.out.2.size)
        rw [HNP.out] at h ⊢
        exact h
      clear hx hgx hd hq hgl hnp
      go_wp2_with (at_builtin; refine wpList_append_pcA rfl _ _ 52 rfl (wr.heap.size + 1) iP _ 32 Try.underlying52 hiP hzP0 hzP1 hzP2 rfl _ _ [] p rfl HOP.out rfl HSRC.out (by show 0 + p.length ≤ _; rw [← HNP.out]; unfold maxLen; omega) (by show (0 + p.length) * 32 ≤ _; rw [← HNP.out]; omega) (by simp) ?_; intro v' w4 ho4 hg4; refine hold_goalF ?_)
      have ho4' : w4.ownsRow (wr.heap.size + 1) 89 3 v' p.length (pcC p) := ho4
      obtain ⟨a2, c2, rfl⟩ := own3_slice ho4'
      have hown4 := pcs_own ho4'
      have r4 : w4.heap[wr.heap.size]? = some (.cells #[.int .i64 b, .string d, .slice a1 np c1] 54 (0, 0)) := (hg4.block wr.heap.size (by simp; omega) (by show some wr.heap.size ≠ some (wr.heap.size + 1); intro c; have := Option.some.inj c; omega)).trans HRX.out
      have HW4 : Hid (Below wr.heap.size wr w4) := HWX.out.grown hg4 (by simp; omega) (fun k hk => by have e : wr.heap.size + 1 = k := Option.some.inj hk; omega)
      have y0 : w4.cell? ⟨wr.heap.size, 0, none⟩ = some (.int .i64 b) := cell_of_row _ _ 0 _ _ _ r4
      have y1 : w4.cell? ⟨wr.heap.size, 1, none⟩ = some (.string d) := cell_of_row _ _ 1 _ _ _ r4
      have y2 : w4.cell? ⟨wr.heap.size, 2, none⟩ = some (.slice a1 np c1) := cell_of_row _ _ 2 _ _ _ r4
      have z2 := frozen_of_row w4 _ 2 _ _ r4
      have hl4 : wr.heap.size < w4.heap.size := (Array.getElem?_eq_some_iff.1 r4).1
      obtain ⟨n2, hn2⟩ : ∃ n2, n2 = p.length := ⟨_, rfl⟩
      rw [← hn2] at hown4 ⊢
      have HW5 : Hid (Below wr.heap.size wr (w4.setCell ⟨wr.heap.size, 2, none⟩ (.slice a2 n2 c2))) := HW4.out.setCell (Nat.le_refl _) _
      have HN5 : Hid (Nst (w4.setCell ⟨wr.heap.size, 2, none⟩ (.slice a2 n2 c2)) wr.heap.size [.int .i64 b, .string d, .slice a2 n2 c2] (lkDs ⟨b, d, p⟩)) :=
        lk_new ((hown4.keep fun k hk _ => heap_setCell_other _ _ _ _ (by show k ≠ wr.heap.size; omega)).base (by omega))
      have HO5 : Hid (Gl (w4.setCell ⟨wr.heap.size, 2, none⟩ (.slice a2 n2 c2)) w.heap.size 54 3 isPc (.slice va0 i vc0) i us ((L.take i).flatMap lkDs)) := HO.out.1.call HW5.out
      have HB5 : Hid (Below w.heap.size w (w4.setCell ⟨wr.heap.size, 2, none⟩ (.slice a2 n2 c2))) := dblow HO.out.2 HW5.out HO.out.2.size
      have hs5 : (w4.setCell ⟨wr.heap.size, 2, none⟩ (.slice a2 n2 c2)).heap.size = w4.heap.size := by simp
      have hsz4 : w.heap.size ≤ w4.heap.size := by have := HB5.out.size; rw [hs5] at this; exact this
      clear ho4 ho4' hown4 r4 hg4 HOP HSRC HRX HWX x0 x1 x2 hs5 hn2 HPA
      unfold Hid
      go_wp2_with (at_builtin; (refine wpList_append_own _ rfl _ _ 25 rfl w.heap.size 54 i0 _ 3 48 Try.underlying25 hi0 hz0 hz1 hz2 rfl (by decide) _ i us rfl (HO5.out.row.alloc _) ⟨w4.heap.size, 0, none⟩ 1 1 [_, _, _] rfl rfl (cell_three_at (by simp)) ?c2 ?c3 ?c4 ?c5 ?_))
      case c2 => exact three_lk _ _ _ _ _
      case c3 => unfold maxLen; omega
      case c4 => omega
      case c5 => simp; omega
      intro v7 w7 ho7 hg7 _
      have HA6 : Hid (Below wr.heap.size wr ((w4.setCell ⟨wr.heap.size, 2, none⟩ (.slice a2 n2 c2)).alloc (.cells #[.int .i64 b, .string d, .slice a2 n2 c2] 54))) := HW5.out.alloc HW5.out.size _
      have HNEW : Hid (Gl w7 w.heap.size 54 3 isPc v7 (i + 1) (us ++ [.int .i64 b, .string d, .slice a2 n2 c2]) ((L.take (i + 1)).flatMap lkDs) ∧ Below w.heap.size w w7) := by
        refine ⟨?_, (HB5.out.alloc HB5.out.size _).grown hg7 (by simp; omega) (fun k hk => (HO5.out.row.lt k hk).1)⟩
        rw [HSTP.out]
        exact HO.out.1.grow HA6.out HO.out.2.size (HN5.out.under ((Below.refl _ _).alloc (Nat.le_refl _) _)) (lkDs_ty _) ho7 hg7
      clear ho7 hg7 HO5 HB5 HW5 HN5 HA6 HW4 HO HSTP
      go_wp2_with fail
      go_roundw
      case rel => exact ⟨i + 1, _, by omega, by go_num, HNEW⟩
      case measure => simp [intN]; omega
    · obtain rfl : i = n := by omega
      have hT : L.take i = L := List.take_of_length_le (by have := HX.out.1; omega)
      have HOO := HO.out
      rw [hT] at HOO
      have HO9 := dhid HOO
      clear hT HOO HO
      go_wp2_with fail
      go_ret
      exact ⟨⟨_, _, rfl, HO9.out.1⟩, HO9.out.2⟩
set_option maxRecDepth 100000 in
theorem scpLk_zero (a : Option Addr) (c : Nat) (w : World) :
    Calls Try.prog 45 #[.slice a 0 c] w fun e w' => e = .returned (.slice (some ⟨w.heap.size, 0, none⟩) 0 0) ∧ w' = w.alloc (.cells #[] 54) := by
  go_enter Try.func45, Try.ntmps45
  go_wp2_with fail
  refine wp_loop_rounds 1 ?_
  rw [rounds_succ]
  go_wp2_with fail
  go_ret
  exact ⟨rfl, rfl⟩
theorem scpLk_gl (v : Value) (L : List LkI) (bs : List Nat) (w : World) (hn : L.length ≤ 30) (hG : ∀ x ∈ L, LkG x) (h : Hd w (lksD L) v bs) :
    Calls Try.prog 45 #[v] w fun e w' => (∃ v us, e = .returned v ∧ Gl w' w.heap.size 54 3 isPc v L.length us (L.flatMap lkDs)) ∧ Below w.heap.size w w' := by
  obtain ⟨a, c, rfl, hx⟩ := lks_at h
  by_cases h0 : 0 < L.length
  · obtain ⟨g, rfl, hg⟩ := hx h0
    exact scpLk_some g c L.length L rfl w hn hG hg
  · have e0 : L = [] := List.length_eq_zero_iff.1 (by omega)
    subst e0
    refine (scpLk_zero a c w).mono ?_
    rintro e w' ⟨rfl, rfl⟩
    exact ⟨⟨_, _, rfl, ⟨World.ownsRow_made w #[] 0 (Nat.le_refl _) (by unfold maxLen; omega) rfl, Nst.nil _ _, fun d hd => (by cases hd), by unfold isPc; decide⟩⟩, (Below.refl _ _).alloc (Nat.le_refl _) _⟩
end Go.Proofs.Ytpeddaljgmkomaa
