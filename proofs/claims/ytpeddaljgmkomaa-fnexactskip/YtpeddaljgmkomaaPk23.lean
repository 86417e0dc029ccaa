/-
  Several texts of this seat as one: DtS, AvM, Cb.
-/
import Derived.Test.YtpeddaljgmkomaaPk22
import Derived.Test.YtpeddaljgmkomaaPk16
import Derived.Test.YtpeddaljgmkomaaPk03
import Derived.Test.YtpeddaljgmkomaaPk17
import Derived.Test.YtpeddaljgmkomaaPk20

/-!   The text of pieces: the specification's. -/
namespace Go.Proofs.Ytpeddaljgmkomaa
open Go.RowKit
set_option linter.unusedVariables false
set_option linter.unusedSimpArgs false
set_option maxRecDepth 100000 in
theorem sl1Put_any (m : Nat) (w : World) (hm : m < 9223372036854775808) : Calls Try.prog 73 #[.int .i64 (m : Int)] w fun e w' => e = .returned (.string (putB m)) ∧ Below w.heap.size w w' := by
  have hw : IntKind.u64.wrap (m : Int) = (m : Int) := by rw [IntKind.wrap_u64]; omega
  have HP : Hid (∀ w, Calls Try.prog 97 #[.int .u64 (m : Int)] w fun e w' => e = .returned (.string (putB m)) ∧ Below w.heap.size w w') := fun w => sput_any m w (by omega)
  go_enter Try.func73, Try.ntmps73
  go_wp2_with fail
  refine (HP.out _).mono ?_
  rintro e w1 ⟨rfl, hb1⟩
  go_wp2_with fail
  go_ret
  exact ⟨rfl, hb1⟩
set_option maxRecDepth 100000 in
set_option maxHeartbeats 4000000 in
theorem sdt_yes (a : Option Addr) (c n : Nat) (F : Nat → PcI) (w : World) (hF : PcLe F n) (hok : pcR F n 4000) (hr : 0 < n → ∃ g, a = some ⟨g, 0, none⟩ ∧ PcRow w g n F) :
    Calls Try.prog 47 #[.slice a n c] w fun e w' => e = .returned (.string (dtB F n n)) ∧ Below w.heap.size w w' := by
  have hnI : (n : Int) ≤ 500 := by have := hok.2.2.1; omega
  have HK : Hid (∀ w, PcArg w (.slice a n c) n F → Calls Try.prog 68 #[.int .i64 4000, .slice a n c] w fun e w' => e = .returned (.bool true) ∧ Below w.heap.size w w') := fun w h => by
    have h2 := spcs_any (.slice a n c) n F 4000 w hF h
    rw [pcB_yes hok] at h2
    exact h2
  have HP : Hid (∀ (m : Nat) w, m < 9223372036854775808 → Calls Try.prog 73 #[.int .i64 (m : Int)] w fun e w' => e = .returned (.string (putB m)) ∧ Below w.heap.size w w') := fun m w h => sl1Put_any m w h
  have HPT : Hid (∀ (s : ByteArray) w, s.size ≤ 1048576 → Calls Try.prog 74 #[.string s] w fun e w' => e = .returned (.string (putTextOut s)) ∧ Below w.heap.size w w') := fun s w h => sputText_any s w (by omega)
  have HR : Hid (∀ w', Below w.heap.size w w' → 0 < n → ∃ g, a = some ⟨g, 0, none⟩ ∧ PcRow w' g n F ∧ g < w.heap.size) := fun w' hb h0 => by
    obtain ⟨g, h1, h2⟩ := hr h0
    exact ⟨g, h1, h2.below hb h2.lt, h2.lt⟩
  have HA : Hid (PcArg w (.slice a n c) n F) := ⟨a, c, rfl, hr⟩
  have HO : Hid (pcR F n 4000 ∧ ∀ i, i < n → (F i).d.size ≤ 1048576) := ⟨hok, hF.d⟩
  have hpn := putB_size (n := n) (by omega)
  clear hr hok hF
  go_enter Try.func47, Try.ntmps47
  go_wp2_with fail
  refine (HK.out _ HA.out).mono ?_
  rintro e w1 ⟨rfl, hb1⟩
  have HB1 : Hid (Below w.heap.size w w1) := hb1
  clear hb1 HA HK
  go_wp2_with fail
  refine (HP.out n _ (by omega)).mono ?_
  rintro e w2 ⟨rfl, hb2⟩
  have HB3 : Hid (Below w.heap.size w w2) := bl3 HB1.out hb2 HB1.out.size
  clear hb2 HB1
  go_wp2_with fail
  go_loopw [3, 4] (fun u v wr => ∃ (i : Nat), i ≤ n ∧ v = .int .i64 (i : Int) ∧ u = .string (dtB F n i) ∧ Hid (Below w.heap.size w wr)) (fun _ v _ => n - (intN v).toNat)
  case atStart => exact ⟨0, by omega, rfl, rfl, HB3⟩
  case round =>
    clear HB3
    obtain ⟨i, hi, rfl, rfl, HB⟩ := hrel
    by_cases hlt : i < n
    · have hltI : (i : Int) < (n : Int) := by omega
      obtain ⟨g, rfl, hrow, hgl⟩ := HR.out _ HB.out (by omega)
      have HGL : Hid (g < w.heap.size) := hgl
      obtain ⟨q, hq⟩ : ∃ q, q = 3 * i := ⟨_, rfl⟩
      have x0 := hrow.c0 i hlt
      have x1 := hrow.c1 i hlt
      have x2 := hrow.c2 i hlt
      rw [← hq] at x0 x1 x2
      have hiq : i * 3 = q := by omega
      have hp := HO.out.1.2.2.2.1 i hlt
      have hdi := HO.out.2 i hlt
      have hle := dtB_size (F := F) (n := n) (i := i) (by omega) (fun j hj => HO.out.2 j (by omega)) (fun j hj => HO.out.1.2.2.2.1 j (by omega))
      have hle2 : (dtB F n i).size ≤ 1000000000 := by omega
      have HY : Hid ((F i).d ≠ ⟨#[]⟩ → dtB F n (i + 1) = dtB F n i ++ putTextOut (F i).d) := fun h => dtB_yes h
      have HN : Hid ((F i).d = ⟨#[]⟩ → dtB F n (i + 1) = ((dtB F n i ++ putTextOut ⟨#[]⟩) ++ putB (F i).f.toNat) ++ putB (F i).l.toNat) := fun h => dtB_no h
      clear hrow hq hle hgl
      generalize F i = p at x0 x1 x2 hp HY HN hdi
      generalize dtB F n i = acc at hle2 HY HN ⊢
      obtain ⟨f, l, d⟩ := p
      simp only at x0 x1 x2 hdi HY HN
      have htx := putT_size hdi
      go_wp2_with fail
      refine (HPT.out d _ hdi).mono ?_
      rintro e w4 ⟨rfl, hb4⟩
      have HB4 : Hid (Below w.heap.size w w4) := bl3 HB.out hb4 HB.out.size
      have y0 : w4.cell? ⟨g, q, none⟩ = some (.int .i64 f) := (HB4.out.cell (p := ⟨g, q, none⟩) HGL.out).trans ((HB.out.cell (p := ⟨g, q, none⟩) HGL.out).symm.trans x0)
      have y1 : w4.cell? ⟨g, q + 1, none⟩ = some (.int .i64 l) := (HB4.out.cell (p := ⟨g, q + 1, none⟩) HGL.out).trans ((HB.out.cell (p := ⟨g, q + 1, none⟩) HGL.out).symm.trans x1)
      have y2 : w4.cell? ⟨g, q + 2, none⟩ = some (.string d) := (HB4.out.cell (p := ⟨g, q + 2, none⟩) HGL.out).trans ((HB.out.cell (p := ⟨g, q + 2, none⟩) HGL.out).symm.trans x2)
      clear hb4 HB x0 x1 x2
      rcases hp with ⟨h, h1, h2, h3, h4⟩ | ⟨h, h1, h2⟩
      · simp only at h h1 h2 h3 h4
        subst h
        obtain ⟨f2, rfl⟩ : ∃ f2 : Nat, f = (f2 : Int) := ⟨f.toNat, by omega⟩
        obtain ⟨l2, rfl⟩ : ∃ l2 : Nat, l = (l2 : Int) := ⟨l.toNat, by omega⟩
        have hN2 := HN.out rfl
        simp only [Int.toNat_natCast] at hN2
        obtain ⟨acc2, hacc⟩ : ∃ acc2, acc2 = acc ++ putTextOut ⟨#[]⟩ := ⟨_, rfl⟩
        have HN2 : Hid (dtB F n (i + 1) = (acc2 ++ putB f2) ++ putB l2) := by rw [hacc]; exact hN2
        have ha2 : acc2.size ≤ 1100000000 := by rw [hacc, ByteArray.size_append]; omega
        have hpf := putB_size (n := f2) (by omega)
        have hpl := putB_size (n := l2) (by omega)
        have hs1 := ByteArray.size_append (a := acc2) (b := putB f2)
        have HACC : Hid (acc2 = acc ++ putTextOut ⟨#[]⟩) := hacc
        obtain ⟨S, hSS⟩ : ∃ S : World → Prop, S = fun w' => Below w.heap.size w w' := ⟨_, rfl⟩
        have HS : Hid _ := hSS
        have hSd : S w4.drew := by rw [hSS]; exact HB4.out.drew
        have HX : Hid (∀ w', S w' → w'.cell? ⟨g, q, none⟩ = some (.int .i64 (f2 : Int)) ∧ w'.cell? ⟨g, q + 1, none⟩ = some (.int .i64 (l2 : Int))) := fun w' hw' => by
          rw [hSS] at hw'
          exact ⟨(hw'.cell (p := ⟨g, q, none⟩) HGL.out).trans ((HB4.out.cell (p := ⟨g, q, none⟩) HGL.out).symm.trans y0), (hw'.cell (p := ⟨g, q + 1, none⟩) HGL.out).trans ((HB4.out.cell (p := ⟨g, q + 1, none⟩) HGL.out).symm.trans y1)⟩
        clear HN HY hN2 hSS hacc
        go_wp2_with fail
        rw [← HACC.out]
        refine wp_region_held (S := S) (by kernel_rfl) ?_
        change wpAnyH _ _ _ _ _ _ _ _ (World.drew _)
        refine wpAnyH_take (i := 0) (v := .string acc2) rfl (by kernel_rfl) (by kernel_rfl) (by kernel_rfl) (fun _ _ _ h => h) (Or.inl ⟨by rfl, by intro w' hS'; go_simp <;> (first | omega | (rw [IntKind.wrap_i64]; omega) | (rw [IntKind.wrap_u64]; omega) | (rw [IntKind.wrap_u32]; omega) | (rw [Int.tmod_eq_emod_of_nonneg (by omega)]) | rfl)⟩) hSd ?_
        (try simp only [List.getElem_toArray, List.getElem_cons_succ, List.getElem_cons_zero, Act.put, List.setIfInBounds_toArray, List.set_cons_zero, List.set_cons_succ])
        refine wpAnyH_take (i := 1) (v := .slice (some ⟨g, 0, none⟩) n c) rfl (by kernel_rfl) (by kernel_rfl) (by kernel_rfl) (fun _ _ _ h => h) (Or.inl ⟨by rfl, by intro w' hS'; go_simp <;> (first | omega | (rw [IntKind.wrap_i64]; omega) | (rw [IntKind.wrap_u64]; omega) | (rw [IntKind.wrap_u32]; omega) | (rw [Int.tmod_eq_emod_of_nonneg (by omega)]) | rfl)⟩) hSd ?_
        (try simp only [List.getElem_toArray, List.getElem_cons_succ, List.getElem_cons_zero, Act.put, List.setIfInBounds_toArray, List.set_cons_zero, List.set_cons_succ])
        refine wpAnyH_take (i := 2) (v := .int .i64 (i : Int)) rfl (by kernel_rfl) (by kernel_rfl) (by kernel_rfl) (fun _ _ _ h => h) (Or.inl ⟨by rfl, by intro w' hS'; go_simp <;> (first | omega | (rw [IntKind.wrap_i64]; omega) | (rw [IntKind.wrap_u64]; omega) | (rw [IntKind.wrap_u32]; omega) | (rw [Int.tmod_eq_emod_of_nonneg (by omega)]) | rfl)⟩) hSd ?_
        (try simp only [List.getElem_toArray, List.getElem_cons_succ, List.getElem_cons_zero, Act.put, List.setIfInBounds_toArray, List.set_cons_zero, List.set_cons_succ])
        refine wpAnyH_take (i := 3) (v := .pointer (some ⟨g, q, none⟩)) rfl (by kernel_rfl) (by kernel_rfl) (by kernel_rfl) (fun _ _ _ h => h) (Or.inl ⟨by rfl, by intro w' hS'; go_simp <;> (first | omega | (rw [IntKind.wrap_i64]; omega) | (rw [IntKind.wrap_u64]; omega) | (rw [IntKind.wrap_u32]; omega) | (rw [Int.tmod_eq_emod_of_nonneg (by omega)]) | rfl)⟩) hSd ?_
        (try simp only [List.getElem_toArray, List.getElem_cons_succ, List.getElem_cons_zero, Act.put, List.setIfInBounds_toArray, List.set_cons_zero, List.set_cons_succ])
        refine wpAnyH_take (i := 4) (v := .pointer (some ⟨g, q, none⟩)) rfl (by kernel_rfl) (by kernel_rfl) (by kernel_rfl) (fun _ _ _ h => h) (Or.inl ⟨by rfl, by intro w' hS'; go_simp <;> (first | omega | (rw [IntKind.wrap_i64]; omega) | (rw [IntKind.wrap_u64]; omega) | (rw [IntKind.wrap_u32]; omega) | (rw [Int.tmod_eq_emod_of_nonneg (by omega)]) | rfl)⟩) hSd ?_
        (try simp only [List.getElem_toArray, List.getElem_cons_succ, List.getElem_cons_zero, Act.put, List.setIfInBounds_toArray, List.set_cons_zero, List.set_cons_succ])
        refine wpAnyH_take (i := 5) (v := .int .i64 (f2 : Int)) rfl (by kernel_rfl) (by kernel_rfl) (by kernel_rfl) (fun _ _ _ h => h) (Or.inl ⟨by rfl, by intro w' hS'; obtain ⟨k5, k6⟩ := HX.out w' hS'; go_simp <;> (first | omega | (rw [IntKind.wrap_i64]; omega) | (rw [IntKind.wrap_u64]; omega) | (rw [IntKind.wrap_u32]; omega) | (rw [Int.tmod_eq_emod_of_nonneg (by omega)]) | rfl)⟩) hSd ?_
        (try simp only [List.getElem_toArray, List.getElem_cons_succ, List.getElem_cons_zero, Act.put, List.setIfInBounds_toArray, List.set_cons_zero, List.set_cons_succ])
        refine wpAnyH_take (i := 8) (v := .slice (some ⟨g, 0, none⟩) n c) rfl (by kernel_rfl) (by kernel_rfl) (by kernel_rfl) (fun _ _ _ h => h) (Or.inl ⟨by rfl, by intro w' hS'; go_simp <;> (first | omega | (rw [IntKind.wrap_i64]; omega) | (rw [IntKind.wrap_u64]; omega) | (rw [IntKind.wrap_u32]; omega) | (rw [Int.tmod_eq_emod_of_nonneg (by omega)]) | rfl)⟩) hSd ?_
        (try simp only [List.getElem_toArray, List.getElem_cons_succ, List.getElem_cons_zero, Act.put, List.setIfInBounds_toArray, List.set_cons_zero, List.set_cons_succ])
        refine wpAnyH_take (i := 9) (v := .int .i64 (i : Int)) rfl (by kernel_rfl) (by kernel_rfl) (by kernel_rfl) (fun _ _ _ h => h) (Or.inl ⟨by rfl, by intro w' hS'; go_simp <;> (first | omega | (rw [IntKind.wrap_i64]; omega) | (rw [IntKind.wrap_u64]; omega) | (rw [IntKind.wrap_u32]; omega) | (rw [Int.tmod_eq_emod_of_nonneg (by omega)]) | rfl)⟩) hSd ?_
        (try simp only [List.getElem_toArray, List.getElem_cons_succ, List.getElem_cons_zero, Act.put, List.setIfInBounds_toArray, List.set_cons_zero, List.set_cons_succ])
        refine wpAnyH_take (i := 10) (v := .pointer (some ⟨g, q, none⟩)) rfl (by kernel_rfl) (by kernel_rfl) (by kernel_rfl) (fun _ _ _ h => h) (Or.inl ⟨by rfl, by intro w' hS'; go_simp <;> (first | omega | (rw [IntKind.wrap_i64]; omega) | (rw [IntKind.wrap_u64]; omega) | (rw [IntKind.wrap_u32]; omega) | (rw [Int.tmod_eq_emod_of_nonneg (by omega)]) | rfl)⟩) hSd ?_
        (try simp only [List.getElem_toArray, List.getElem_cons_succ, List.getElem_cons_zero, Act.put, List.setIfInBounds_toArray, List.set_cons_zero, List.set_cons_succ])
        refine wpAnyH_take (i := 11) (v := .pointer (some ⟨g, q + 1, none⟩)) rfl (by kernel_rfl) (by kernel_rfl) (by kernel_rfl) (fun _ _ _ h => h) (Or.inl ⟨by rfl, by intro w' hS'; go_simp <;> (first | omega | (rw [IntKind.wrap_i64]; omega) | (rw [IntKind.wrap_u64]; omega) | (rw [IntKind.wrap_u32]; omega) | (rw [Int.tmod_eq_emod_of_nonneg (by omega)]) | rfl)⟩) hSd ?_
        (try simp only [List.getElem_toArray, List.getElem_cons_succ, List.getElem_cons_zero, Act.put, List.setIfInBounds_toArray, List.set_cons_zero, List.set_cons_succ])
        refine wpAnyH_take (i := 12) (v := .int .i64 (l2 : Int)) rfl (by kernel_rfl) (by kernel_rfl) (by kernel_rfl) (fun _ _ _ h => h) (Or.inl ⟨by rfl, by intro w' hS'; obtain ⟨k5, k6⟩ := HX.out w' hS'; go_simp <;> (first | omega | (rw [IntKind.wrap_i64]; omega) | (rw [IntKind.wrap_u64]; omega) | (rw [IntKind.wrap_u32]; omega) | (rw [Int.tmod_eq_emod_of_nonneg (by omega)]) | rfl)⟩) hSd ?_
        (try simp only [List.getElem_toArray, List.getElem_cons_succ, List.getElem_cons_zero, Act.put, List.setIfInBounds_toArray, List.set_cons_zero, List.set_cons_succ])
        refine held_stepS (i := 6) (by kernel_rfl) rfl (by rfl) ?_
        go_simp
        refine (HP.out f2 _ (by omega)).mono ?_
        rintro e w5 ⟨rfl, hb⟩
        have hSw5 : S w5 := by rw [HS.out]; have hx := hSd; rw [HS.out] at hx; exact bl3 hx hb hx.size
        clear hb
        refine ⟨hSw5, ?_⟩
        (try simp only [List.getElem_toArray, List.getElem_cons_succ, List.getElem_cons_zero, Act.put, List.setIfInBounds_toArray, List.set_cons_zero, List.set_cons_succ])
        refine wpAnyH_take (i := 7) (v := .string (acc2 ++ putB f2)) rfl (by kernel_rfl) (by kernel_rfl) (by kernel_rfl) (fun _ _ _ h => h) (Or.inl ⟨by rfl, by intro w' hS'; go_simp <;> (first | omega | (rw [IntKind.wrap_i64]; omega) | (rw [IntKind.wrap_u64]; omega) | (rw [IntKind.wrap_u32]; omega) | (rw [Int.tmod_eq_emod_of_nonneg (by omega)]) | rfl)⟩) hSw5 ?_
        (try simp only [List.getElem_toArray, List.getElem_cons_succ, List.getElem_cons_zero, Act.put, List.setIfInBounds_toArray, List.set_cons_zero, List.set_cons_succ])
        refine held_stepS (i := 13) (by kernel_rfl) rfl (by rfl) ?_
        go_simp
        refine (HP.out l2 _ (by omega)).mono ?_
        rintro e w6 ⟨rfl, hb⟩
        have hSw6 : S w6 := by rw [HS.out]; have hx := hSw5; rw [HS.out] at hx; exact bl3 hx hb hx.size
        clear hb
        refine ⟨hSw6, ?_⟩
        (try simp only [List.getElem_toArray, List.getElem_cons_succ, List.getElem_cons_zero, Act.put, List.setIfInBounds_toArray, List.set_cons_zero, List.set_cons_succ])
        refine wpAnyH_take (i := 14) (v := .string ((acc2 ++ putB f2) ++ putB l2)) rfl (by kernel_rfl) (by kernel_rfl) (by kernel_rfl) (fun _ _ _ h => h) (Or.inl ⟨by rfl, by intro w' hS'; go_simp <;> (first | omega | (rw [IntKind.wrap_i64]; omega) | (rw [IntKind.wrap_u64]; omega) | (rw [IntKind.wrap_u32]; omega) | (rw [Int.tmod_eq_emod_of_nonneg (by omega)]) | rfl)⟩) hSw6 ?_
        (try simp only [List.getElem_toArray, List.getElem_cons_succ, List.getElem_cons_zero, Act.put, List.setIfInBounds_toArray, List.set_cons_zero, List.set_cons_succ])
        refine wpAnyH_take (i := 15) (v := .string ((acc2 ++ putB f2) ++ putB l2)) rfl (by kernel_rfl) (by kernel_rfl) (by kernel_rfl) (fun _ _ _ h => h) (Or.inl ⟨by rfl, by intro w' hS'; go_simp <;> (first | omega | (rw [IntKind.wrap_i64]; omega) | (rw [IntKind.wrap_u64]; omega) | (rw [IntKind.wrap_u32]; omega) | (rw [Int.tmod_eq_emod_of_nonneg (by omega)]) | rfl)⟩) hSw6 ?_
        (try simp only [List.getElem_toArray, List.getElem_cons_succ, List.getElem_cons_zero, Act.put, List.setIfInBounds_toArray, List.set_cons_zero, List.set_cons_succ])
        refine wpAnyH_done (by kernel_rfl) ?_ _
        have HBE : Hid (Below w.heap.size w w6) := by have hx := hSw6; rw [HS.out] at hx; exact hx
        go_wp2_with fail
        go_roundw
        case rel => exact ⟨i + 1, by omega, by go_num, by rw [HN2.out]; try rfl, HBE⟩
        case measure => simp [intN]; omega
      · simp only at h h1 h2
        have HNE : Hid (dtB F n (i + 1) = acc ++ putTextOut d) := HY.out h
        have he := d_ne h
        clear h HN HY
        go_wp2_with fail
        go_roundw
        case rel => exact ⟨i + 1, by omega, by go_num, by rw [HNE.out]; try rfl, HB4⟩
        case measure => simp [intN]; omega
    · obtain rfl : i = n := by omega
      go_wp2_with fail
      go_ret
      exact ⟨rfl, HB.out⟩
set_option maxRecDepth 100000 in
theorem sdt_no (v : Value) (n : Nat) (F : Nat → PcI) (w : World) (hF : PcLe F n) (hok : ¬ pcR F n 4000) (hr : PcArg w v n F) :
    Calls Try.prog 47 #[v] w fun e w' => e = .returned (.string ⟨#[]⟩) ∧ Below w.heap.size w w' := by
  have HK : Hid (Calls Try.prog 68 #[.int .i64 4000, v] w fun e w' => e = .returned (.bool false) ∧ Below w.heap.size w w') := by
    have h2 := spcs_any v n F 4000 w hF hr
    rw [pcB_no hok] at h2
    exact h2
  obtain ⟨a, c, rfl, _⟩ := hr
  clear hok hF
  go_enter Try.func47, Try.ntmps47
  go_wp2_with fail
  refine HK.out.mono ?_
  rintro e w1 ⟨rfl, hb1⟩
  go_wp2_with fail
  go_ret
  exact ⟨rfl, hb1⟩
theorem sdt_any (v : Value) (n : Nat) (F : Nat → PcI) (w : World) (hF : PcLe F n) (hr : PcArg w v n F) :
    Calls Try.prog 47 #[v] w fun e w' => e = .returned (.string (dtV F n)) ∧ Below w.heap.size w w' := by
  by_cases h : pcR F n 4000
  · rw [dtV_yes h]
    obtain ⟨a, c, rfl, hr⟩ := hr
    exact sdt_yes a c n F w hF h hr
  · rw [dtV_no h]
    exact sdt_no v n F w hF h hr
end Go.Proofs.Ytpeddaljgmkomaa

/-!   A link behind the others: in memory; what AddVersion answers. -/
namespace Go.Proofs.Ytpeddaljgmkomaa
open Go.RowKit
set_option linter.unusedVariables false
set_option linter.unusedSimpArgs false
theorem wpList_append_lk {P : Program} {w0 W : World} {ops : Array Oper} {rest : List Oper} {o : Oper} {a : Act} {Q : Exit → Act → World → Prop} (hgd : o.guard = none) (s x : Operand) (t : TypeId)
    (ho : o.op = .call { callee := .builtin .append, args := #[s, x], argTypes := #[t, t] })
    (lo : Nat) (i : TypeInfo) (z : Value) (ht : P.underlying t = some (.slice 54)) (hi : P.info? 54 = some i) (hz : i.zero = some z)
    (hsize : i.size = 3) (hby : i.bytes = 48) (hzs : z.cells.size = 3)
    (v : Value) (n : Nat) (us : List Value) (ds : List Dd) (hs : a.eval s = v) (h : Gl w0 lo 54 3 isPc v n us ds) (hn : n ≤ 1000) (hlo : lo ≤ w0.heap.size) (hb : Below w0.heap.size w0 W)
    (b : Int) (d : ByteArray) (p : List PcI) (sa : Option Addr) (sn sc : Nat) (new : Own W w0.heap.size (pcsD p) (.slice sa sn sc)) (hx : a.eval x = .slice (some ⟨W.heap.size, 0, none⟩) 1 1)
    (K : ∀ v' us' w', Gl w' lo 54 3 isPc v' (n + 1) us' (ds ++ lkDs ⟨b, d, p⟩) → (∀ B w00, Below B w00 W → B ≤ lo → Below B w00 w') → wpList P ops Q rest (a.put o.dst v') w') : wpList P ops Q (o :: rest) a (W.alloc (.cells #[.int .i64 b, .string d, .slice sa sn sc] 54)) := by
  have hA : Below W.heap.size W (W.alloc (.cells #[.int .i64 b, .string d, .slice sa sn sc] 54)) := (Below.refl _ _).alloc (Nat.le_refl _) _
  have hb2 := dblow hb hA hb.size
  have hrow := (h.call hb2).row
  have hlo2 : lo ≤ (W.alloc (.cells #[.int .i64 b, .string d, .slice sa sn sc] 54)).heap.size := Nat.le_trans hlo hb2.size
  refine wpList_append_own _ hgd s x t ho lo 54 i z 3 48 ht hi hz hsize hby hzs (by decide) v n us hs hrow ⟨W.heap.size, 0, none⟩ 1 1 [.int .i64 b, .string d, .slice sa sn sc] hx rfl (cell_three_at rfl) (three_lk _ _ _ _ _) (by unfold maxLen; omega) (by omega) hlo2 ?_
  intro v' w' ho' hg _
  refine K v' _ w' (h.grow hb2 hlo ((lk_new new).under hA) (lkDs_ty _) ho' hg) fun B w00 hB hBl => ?_
  exact (dblow hB hA (Nat.le_trans hBl (Nat.le_trans hlo hb.size))).grown hg (Nat.le_trans hBl hlo2) (fun k hk => Nat.le_trans hBl (hrow.lt k hk).1)
theorem lks_snoc (L : List LkI) (x : LkI) : L.flatMap lkDs ++ lkDs x = (L ++ [x]).flatMap lkDs := by rw [List.flatMap_append]; simp
theorem gl_lks {w : World} {lo n : Nat} {v : Value} {us : List Value} {L : List LkI} {x : LkI} (h : Gl w lo 54 3 isPc v (n + 1) us (L.flatMap lkDs ++ lkDs x)) (hn : n = L.length) : Own w lo (lksD (L ++ [x])) v := by
  rw [lks_snoc] at h
  exact h.own (by omega) (by rw [fm_len lkDs_len, List.length_append, hn]; rfl)
/-- a delta that is shorter -/
noncomputable def shR (o s : ByteArray) : Option (List PcI) := (doD o s).bind fun P => if (dtV (pcF P) P.length).size < s.size then some P else none
theorem doD_good {o s : ByteArray} {P : List PcI} (h : doD o s = some P) : P.length ≤ 500 ∧ pcR (pcF P) P.length (o.size : Int) ∧ patB o (pcF P) P.length = s ∧ o.size ≤ 4000 ∧ s.size ≤ 4000 := by
  unfold doD at h
  split at h
  · cases h
  · split at h
    · cases h
    · injection h with h
      subst h
      have h1 := doL_good o s (by omega) (by omega) (by omega)
      exact ⟨by omega, h1.1, h1.2, by omega, by omega⟩
theorem pcLe_of {P : List PcI} {old : Int} (h : pcR (pcF P) P.length old) : PcLe (pcF P) P.length := by
  refine ⟨by have := h.2.2.1; omega, fun i hi => ?_⟩
  have h1 := h.2.2.2.1 i hi
  by_cases hd : (pcF P i).d = ⟨#[]⟩
  · rw [hd]; decide
  · have h2 := pcSum_mono (F := pcF P) (i := i + 1) (n := P.length) (by omega) h.2.2.2.1
    have h3 : 0 ≤ pcSum (pcF P) i := by
      have : ∀ j, j ≤ P.length → 0 ≤ pcSum (pcF P) j := by
        intro j
        induction j with
        | zero => intro _; exact Int.le_refl _
        | succ j ih =>
          intro hj
          have h4 := ih (by omega)
          have h5 := pcP_pos (h.2.2.2.1 j (by omega))
          show 0 ≤ pcSum (pcF P) j + pcSz (pcF P j)
          omega
      exact this i (by omega)
    have h4 : pcSum (pcF P) (i + 1) = pcSum (pcF P) i + pcSz (pcF P i) := rfl
    have h5 := pcSz_yes hd
    have h6 := h.2.2.2.2
    omega
open Classical in
/-- the link that AddVersion puts behind -/
noncomputable def avL (V : List VerI) (s : ByteArray) (k : Int) : LkI :=
  match (if 0 ≤ k then V[k.toNat]? else none) with
  | some o => if o.d < 6 then (match shR o.t s with | some P => ⟨k, ⟨#[]⟩, P⟩ | none => ⟨-1, s, []⟩) else ⟨-1, s, []⟩
  | none => ⟨-1, s, []⟩
open Classical in
noncomputable def avR (L : List LkI) (s : ByteArray) (k : Int) : Option (List LkI) := (vAll L).bind fun V => if L.length < 30 ∧ s.size ≤ 4000 ∧ -1 ≤ k ∧ k ≤ (L.length : Int) - 1 then some (L ++ [avL V s k]) else none
theorem avR_none {L : List LkI} {s : ByteArray} {k : Int} (h : vAll L = none) : avR L s k = none := by unfold avR; rw [h]; rfl
theorem avR_no {L : List LkI} {s : ByteArray} {k : Int} (h : ¬ (L.length < 30 ∧ s.size ≤ 4000 ∧ -1 ≤ k ∧ k ≤ (L.length : Int) - 1)) : avR L s k = none := by
  unfold avR
  cases vAll L with
  | none => rfl
  | some V => exact if_neg h
theorem avR_yes {L : List LkI} {s : ByteArray} {k : Int} {V : List VerI} (hA : vAll L = some V) (h : L.length < 30 ∧ s.size ≤ 4000 ∧ -1 ≤ k ∧ k ≤ (L.length : Int) - 1) : avR L s k = some (L ++ [avL V s k]) := by
  unfold avR; rw [hA]; exact if_pos h
theorem avL_whole {V : List VerI} {s : ByteArray} {k : Int} (h : ¬ 0 ≤ k) : avL V s k = ⟨-1, s, []⟩ := by unfold avL; rw [if_neg h]
theorem avL_deep {V : List VerI} {s : ByteArray} {k : Int} {o : VerI} (h : 0 ≤ k) (ho : V[k.toNat]? = some o) (hd : ¬ o.d < 6) : avL V s k = ⟨-1, s, []⟩ := by unfold avL; rw [if_pos h, ho]; exact if_neg hd
theorem avL_long {V : List VerI} {s : ByteArray} {k : Int} {o : VerI} (h : 0 ≤ k) (ho : V[k.toNat]? = some o) (hr : shR o.t s = none) : avL V s k = ⟨-1, s, []⟩ := by
  unfold avL; rw [if_pos h, ho]
  show (if o.d < 6 then _ else _) = _
  split
  · rw [hr]
  · rfl
theorem avL_delta {V : List VerI} {s : ByteArray} {k : Int} {o : VerI} {P : List PcI} (h : 0 ≤ k) (ho : V[k.toNat]? = some o) (hd : o.d < 6) (hr : shR o.t s = some P) : avL V s k = ⟨k, ⟨#[]⟩, P⟩ := by
  unfold avL; rw [if_pos h, ho]
  show (if o.d < 6 then _ else _) = _
  rw [if_pos hd, hr]
theorem shR_doD {o s : ByteArray} {P : List PcI} (h : shR o s = some P) : doD o s = some P ∧ (dtV (pcF P) P.length).size < s.size := by
  unfold shR at h
  cases hd : doD o s with
  | none => rw [hd] at h; cases h
  | some Q =>
    rw [hd] at h
    have h : (if (dtV (pcF Q) Q.length).size < s.size then some Q else none) = some P := h
    split at h
    · rename_i h1
      injection h with h
      subst h
      exact ⟨rfl, h1⟩
    · cases h
theorem av_bd {L : List LkI} {s : ByteArray} {k : Int} (hl : LkLe L) : ((avR L s k).getD []).length ≤ 1048576 ∧ (∀ x ∈ (avR L s k).getD [], x.p.length ≤ 1048576) ∧ 1 + lkMN ((avR L s k).getD []) ≤ 4000000 := by
  by_cases hc : L.length < 30 ∧ s.size ≤ 4000 ∧ -1 ≤ k ∧ k ≤ (L.length : Int) - 1
  · cases hA : vAll L with
    | none => rw [avR_none hA]; exact bd_none
    | some V =>
      rw [avR_yes hA hc]
      refine lkMN_small (by show (L ++ [avL V s k]).length ≤ 31; simp; omega) fun x hx => ?_
      rcases List.mem_append.1 hx with hx | hx
      · exact (lkG_of hl hA x hx).len
      · have e : x = avL V s k := by simpa using hx
        subst e
        unfold avL
        split
        · split
          · split
            · rename_i P hP
              exact (doD_good (shR_doD hP).1).1
            · exact Nat.zero_le _
          · exact Nat.zero_le _
        · exact Nat.zero_le _
  · rw [avR_no hc]; exact bd_none
end Go.Proofs.Ytpeddaljgmkomaa

/-!   How many bytes a chain takes: the code's and the specification's. -/
namespace Go.Proofs.Ytpeddaljgmkomaa
open Go.RowKit
set_option linter.unusedVariables false
set_option linter.unusedSimpArgs false
noncomputable def cb1 (x : LkI) : Nat := x.d.size + if x.b = -1 then 0 else (dtV (pcF x.p) x.p.length).size
noncomputable def cbN (L : List LkI) : Nat := (L.map cb1).sum
noncomputable def cbI (L : List LkI) : Int := if chB L then (cbN L : Int) else -1
theorem dtV_size {F : Nat → PcI} {n : Nat} (h : PcLe F n) : (dtV F n).size ≤ 524303010 := by
  by_cases hr : pcR F n 4000
  · rw [dtV_yes hr]
    have h1 := dtB_size (F := F) (n := n) (i := n) hr.2.2.1 h.d hr.2.2.2.1
    have h2 := hr.2.2.1
    omega
  · rw [dtV_no hr]; decide
theorem cb1_le {x : LkI} (hd : x.d.size ≤ 1048576) (hp : PcLe (pcF x.p) x.p.length) : cb1 x ≤ 525351586 := by
  have := dtV_size hp
  unfold cb1
  split <;> omega
theorem cbT_le {L : List LkI} (h : LkLe L) : ∀ i, i ≤ 30 → ((L.take i).map cb1).sum ≤ i * 525351586
  | 0, _ => by simp
  | i + 1, hi => by
    have ih := cbT_le h i (by omega)
    cases hx : L[i]? with
    | none =>
      have hle : L.length ≤ i := List.getElem?_eq_none_iff.1 hx
      rw [List.take_of_length_le (by omega)]
      rw [List.take_of_length_le hle] at ih
      exact Nat.le_trans ih (Nat.mul_le_mul_right _ (Nat.le_succ i))
    | some x =>
      rw [sum_take cb1 hx]
      have h1 := h.one x (List.mem_of_getElem? hx)
      have := cb1_le h1.1 h1.2.2
      omega
theorem chB_some {L : List LkI} (h : chB L = true) : ∃ V, vAll L = some V := by
  unfold chB at h
  cases hA : vAll L with
  | none => rw [hA] at h; cases h
  | some V => exact ⟨V, rfl⟩
/-- a base of a right chain is a number, or there is none -/
theorem base_of {L : List LkI} (h : chB L = true) {i : Nat} {x : LkI} (hx : L[i]? = some x) : x.b = -1 ∨ 0 ≤ x.b := by
  obtain ⟨V, hA⟩ := chB_some h
  obtain ⟨_, hV, _⟩ := vAll_some hA
  obtain ⟨v, _, h1 | h1⟩ := vF_deep hV (List.getElem?_eq_some_iff.1 hx).1 hx
  · exact Or.inl h1.1
  · exact Or.inr h1.1
set_option maxRecDepth 100000 in
set_option maxHeartbeats 2000000 in
theorem cb_yes (g c n : Nat) (L : List LkI) (hLn : n = L.length) (w : World) (hl : LkLe L) (hcb : chB L = true) (hok : Calls Try.prog 16 #[.slice (some ⟨g, 0, none⟩) n c] w fun e w' => e = .returned (.bool true) ∧ Below w.heap.size w w') (hg : LkCells w g L) :
    Calls Try.prog 31 #[.slice (some ⟨g, 0, none⟩) n c] w fun e w' => e = .returned (.int .i64 (cbN L : Int)) ∧ Below w.heap.size w w' := by
  obtain ⟨V, hA⟩ := chB_some hcb
  have hn30 : n ≤ 30 := by have := (vAll_some hA).1; omega
  have hnI : (n : Int) ≤ 30 := by omega
  have HX : Hid (n = L.length ∧ LkLe L ∧ LkCells w g L ∧ chB L = true) := ⟨hLn, hl, hg, hcb⟩
  have HOK := dhid hok
  clear hg hl hLn hA hok hcb
  go_enter Try.func31, Try.ntmps31
  go_wp2_with fail
  refine HOK.out.mono ?_
  rintro e w3 ⟨rfl, hb3⟩
  have HB3 := dhid hb3
  clear hb3 HOK
  go_wp2_with fail
  go_loopw [3, 11] (fun u v wr => ∃ (i s : Nat), i ≤ n ∧ v = .int .i64 (i : Int) ∧ u = .int .i64 (s : Int) ∧ Hid (s = ((L.take i).map cb1).sum) ∧ Hid (Below w.heap.size w wr)) (fun _ v _ => n - (intN v).toNat)
  case atStart => exact ⟨0, 0, by omega, rfl, rfl, rfl, HB3⟩
  case round =>
    clear HB3
    obtain ⟨i, s, hi, rfl, rfl, HS, HB⟩ := hrel
    by_cases hlt : i < n
    · have hltI : (i : Int) < (n : Int) := by omega
      have hx := List.getElem?_eq_getElem (l := L) (i := i) (by have := HX.out.1; omega)
      have hlx := HX.out.2.1.one _ (List.mem_of_getElem? hx)
      obtain ⟨pv, bs, x0, x1, x2, hd⟩ := HX.out.2.2.1.2 i _ hx
      have hgl := HX.out.2.2.1.1
      have hsb := cbT_le HX.out.2.1 i (by omega)
      have hsx := sum_take cb1 hx
      generalize L[i]'_ = x at hx hlx x0 x1 x2 hd hsx
      have hpa := pcs_arg hd
      have HPA : Hid (∀ w', Below w.heap.size w w' → PcArg w' pv x.p.length (pcF x.p)) := fun w' hb' => hpa.below hb'
      obtain ⟨a1, c1, rfl, _⟩ := hpa
      obtain ⟨q, hq⟩ : ∃ q, q = 3 * i := ⟨_, rfl⟩
      have hiq : i * 3 = q := by omega
      rw [← hq] at x0 x1 x2
      rw [← HB.out.cell (p := ⟨g, q, none⟩) hgl] at x0
      rw [← HB.out.cell (p := ⟨g, q + 1, none⟩) hgl] at x1
      rw [← HB.out.cell (p := ⟨g, q + 2, none⟩) hgl] at x2
      obtain ⟨b, d, p⟩ := x
      simp only at x0 x1 x2 HPA hlx
      obtain ⟨np, hnp⟩ : ∃ np, np = p.length := ⟨_, rfl⟩
      rw [← hnp] at x2 HPA
      have hds := dtV_size hlx.2.2
      have hd1 := hlx.1
      have hss : s ≤ i * 525351586 := by rw [HS.out]; exact hsb
      have HDT : Hid (∀ w', Below w.heap.size w w' → Calls Try.prog 57 #[.slice a1 np c1] w' fun e w2 => e = .returned (.string (dtV (pcF p) p.length)) ∧ Below w'.heap.size w' w2) := fun w' hb' => by
        have h1 := HPA.out w' hb'
        rw [hnp] at h1 ⊢
        exact dt_any _ p.length (pcF p) w' hlx.2.2 h1
      have HSX : Hid (((L.take (i + 1)).map cb1).sum = s + cb1 ⟨b, d, p⟩) := by rw [HS.out]; exact hsx
      have HC1 : Hid (cb1 ⟨b, d, p⟩ = d.size + if b = -1 then 0 else (dtV (pcF p) p.length).size) := rfl
      have HBX : Hid (Below w.heap.size w (wr.alloc (.cells #[.int .i64 b, .string d, .slice a1 np c1] 54))) := HB.out.alloc HB.out.size _
      have hw1 : IntKind.i64.wrap ((s : Int) + (d.size : Int)) = ((s + d.size : Nat) : Int) := by rw [IntKind.wrap_i64]; omega
      generalize dtV (pcF p) p.length = T at hds HDT HC1
      have hw2 : IntKind.i64.wrap (((s + d.size : Nat) : Int) + (T.size : Int)) = ((s + d.size + T.size : Nat) : Int) := by rw [IntKind.wrap_i64]; omega
      generalize cb1 ⟨b, d, p⟩ = z at HSX HC1
      obtain ⟨s2, hs2⟩ : ∃ s2, s2 = s + d.size := ⟨_, rfl⟩
      rw [← hs2] at hw1 hw2
      have HS2 := dhid hs2
      clear hx hlx hd hsx hq hgl hsb hnp hss hds hd1 hs2 HS HPA
      by_cases hb1 : b = -1
      · subst hb1
        have HNEW : Hid (s2 = ((L.take (i + 1)).map cb1).sum) := by have h1 := HSX.out; have h2 := HC1.out; have h3 := HS2.out; rw [if_pos rfl] at h2; show s2 = _; omega
        clear HSX HC1 HS2
        go_wp2_with fail
        go_roundw
        case rel => exact ⟨i + 1, s2, by omega, by go_num, rfl, HNEW, HBX⟩
        case measure => simp [intN]; omega
      · have hbe : (b == -1) = false := beq_eq_false_iff_ne.2 hb1
        have HNEW : Hid (s2 + T.size = ((L.take (i + 1)).map cb1).sum) := by have h1 := HSX.out; have h2 := HC1.out; have h3 := HS2.out; rw [if_neg hb1] at h2; show s2 + T.size = _; omega
        clear HSX HC1 hb1 HS2
        go_wp2_with fail
        refine (HDT.out _ HBX.out).mono ?_
        rintro e w4 ⟨rfl, hb4⟩
        have HB4 := dhid (dblow HBX.out hb4 HBX.out.size)
        clear hb4 HBX x0 x1 x2 HDT
        go_wp2_with fail
        go_roundw
        case rel => exact ⟨i + 1, s2 + T.size, by omega, by go_num, by go_num, HNEW, HB4⟩
        case measure => simp [intN]; omega
    · obtain rfl : i = n := by omega
      have HE : Hid (s = cbN L) := by show s = cbN L; rw [HS.out, List.take_of_length_le (by have := HX.out.1; omega)]; rfl
      go_wp2_with fail
      go_ret
      exact ⟨by rw [← HE.out]; rfl, HB.out⟩
set_option maxRecDepth 100000 in
set_option maxHeartbeats 2000000 in
theorem scb_yes (g c n : Nat) (L : List LkI) (hLn : n = L.length) (w : World) (hl : LkLe L) (hcb : chB L = true) (hok : Calls Try.prog 14 #[.slice (some ⟨g, 0, none⟩) n c] w fun e w' => e = .returned (.bool true) ∧ Below w.heap.size w w') (hg : LkCells w g L) :
    Calls Try.prog 30 #[.slice (some ⟨g, 0, none⟩) n c] w fun e w' => e = .returned (.int .i64 (cbN L : Int)) ∧ Below w.heap.size w w' := by
  obtain ⟨V, hA⟩ := chB_some hcb
  have hn30 : n ≤ 30 := by have := (vAll_some hA).1; omega
  have hnI : (n : Int) ≤ 30 := by omega
  have HX : Hid (n = L.length ∧ LkLe L ∧ LkCells w g L ∧ chB L = true) := ⟨hLn, hl, hg, hcb⟩
  have HOK := dhid hok
  clear hg hl hLn hA hok hcb
  go_enter Try.func30, Try.ntmps30
  go_wp2_with fail
  refine HOK.out.mono ?_
  rintro e w3 ⟨rfl, hb3⟩
  have HB3 := dhid hb3
  clear hb3 HOK
  go_wp2_with fail
  go_loopw [3, 4] (fun u v wr => ∃ (i s : Nat), i ≤ n ∧ v = .int .i64 (i : Int) ∧ u = .int .i64 (s : Int) ∧ Hid (s = ((L.take i).map cb1).sum) ∧ Hid (Below w.heap.size w wr)) (fun _ v _ => n - (intN v).toNat)
  case atStart => exact ⟨0, 0, by omega, rfl, rfl, rfl, HB3⟩
  case round =>
    clear HB3
    obtain ⟨i, s, hi, rfl, rfl, HS, HB⟩ := hrel
    by_cases hlt : i < n
    · have hltI : (i : Int) < (n : Int) := by omega
      have hx := List.getElem?_eq_getElem (l := L) (i := i) (by have := HX.out.1; omega)
      have hlx := HX.out.2.1.one _ (List.mem_of_getElem? hx)
      have hbase := base_of HX.out.2.2.2 hx
      obtain ⟨pv, bs, x0, x1, x2, hd⟩ := HX.out.2.2.1.2 i _ hx
      have hgl := HX.out.2.2.1.1
      have hsb := cbT_le HX.out.2.1 i (by omega)
      have hsx := sum_take cb1 hx
      generalize L[i]'_ = x at hx hlx x0 x1 x2 hd hsx hbase
      have hpa := pcs_arg hd
      have HPA : Hid (∀ w', Below w.heap.size w w' → PcArg w' pv x.p.length (pcF x.p)) := fun w' hb' => hpa.below hb'
      obtain ⟨a1, c1, rfl, _⟩ := hpa
      obtain ⟨q, hq⟩ : ∃ q, q = 3 * i := ⟨_, rfl⟩
      have hiq : i * 3 = q := by omega
      rw [← hq] at x0 x1 x2
      rw [← HB.out.cell (p := ⟨g, q, none⟩) hgl] at x0
      rw [← HB.out.cell (p := ⟨g, q + 1, none⟩) hgl] at x1
      rw [← HB.out.cell (p := ⟨g, q + 2, none⟩) hgl] at x2
      obtain ⟨b, d, p⟩ := x
      simp only at x0 x1 x2 HPA hlx hbase
      obtain ⟨np, hnp⟩ : ∃ np, np = p.length := ⟨_, rfl⟩
      rw [← hnp] at x2 HPA
      have hds := dtV_size hlx.2.2
      have hd1 := hlx.1
      have hss : s ≤ i * 525351586 := by rw [HS.out]; exact hsb
      have HDT : Hid (∀ w', Below w.heap.size w w' → Calls Try.prog 47 #[.slice a1 np c1] w' fun e w2 => e = .returned (.string (dtV (pcF p) p.length)) ∧ Below w'.heap.size w' w2) := fun w' hb' => by
        have h1 := HPA.out w' hb'
        rw [hnp] at h1 ⊢
        exact sdt_any _ p.length (pcF p) w' hlx.2.2 h1
      have HSX : Hid (((L.take (i + 1)).map cb1).sum = s + cb1 ⟨b, d, p⟩) := by rw [HS.out]; exact hsx
      have HC1 : Hid (cb1 ⟨b, d, p⟩ = d.size + if b = -1 then 0 else (dtV (pcF p) p.length).size) := rfl
      have hw1 : IntKind.i64.wrap ((s : Int) + (d.size : Int)) = ((s + d.size : Nat) : Int) := by rw [IntKind.wrap_i64]; omega
      generalize dtV (pcF p) p.length = T at hds HDT HC1
      have hw2 : IntKind.i64.wrap (((s + d.size : Nat) : Int) + (T.size : Int)) = ((s + d.size + T.size : Nat) : Int) := by rw [IntKind.wrap_i64]; omega
      generalize cb1 ⟨b, d, p⟩ = z at HSX HC1
      obtain ⟨s2, hs2⟩ : ∃ s2, s2 = s + d.size := ⟨_, rfl⟩
      rw [← hs2] at hw1 hw2
      have HS2 := dhid hs2
      clear hx hlx hd hsx hq hgl hsb hnp hss hds hd1 hs2 HS HPA
      rcases hbase with hb1 | hb1
      · subst hb1
        have HNEW : Hid (s2 = ((L.take (i + 1)).map cb1).sum) := by have h1 := HSX.out; have h2 := HC1.out; have h3 := HS2.out; rw [if_pos rfl] at h2; show s2 = _; omega
        clear HSX HC1 HS2
        go_wp2_with fail
        go_roundw
        case rel => exact ⟨i + 1, s2, by omega, by go_num, rfl, HNEW, HB⟩
        case measure => simp [intN]; omega
      · have HNEW : Hid (s2 + T.size = ((L.take (i + 1)).map cb1).sum) := by have h1 := HSX.out; have h2 := HC1.out; have h3 := HS2.out; rw [if_neg (by omega)] at h2; show s2 + T.size = _; omega
        clear HSX HC1 HS2
        go_wp2_with fail
        refine (HDT.out _ HB.out).mono ?_
        rintro e w4 ⟨rfl, hb4⟩
        have HB4 := dhid (dblow HB.out hb4 HB.out.size)
        clear hb4 HB x0 x1 x2 HDT
        go_wp2_with fail
        go_roundw
        case rel => exact ⟨i + 1, s2 + T.size, by omega, by go_num, by go_num, HNEW, HB4⟩
        case measure => simp [intN]; omega
    · obtain rfl : i = n := by omega
      have HE : Hid (s = cbN L) := by show s = cbN L; rw [HS.out, List.take_of_length_le (by have := HX.out.1; omega)]; rfl
      go_wp2_with fail
      go_ret
      exact ⟨by rw [← HE.out]; rfl, HB.out⟩
set_option maxRecDepth 100000 in
theorem cb_any (v : Value) (L : List LkI) (bs : List Nat) (w : World) (hl : LkLe L) (h : Hd w (lksD L) v bs) :
    Calls Try.prog 31 #[v] w fun e w' => e = .returned (.int .i64 (cbI L)) ∧ Below w.heap.size w w' := by
  have hok := chain_any v L bs w hl h
  obtain ⟨a, c, rfl, hx⟩ := lks_at h
  cases hcb : chB L with
  | false =>
    rw [hcb] at hok
    have HV : Hid (cbI L = -1) := by show cbI L = -1; unfold cbI; rw [hcb]; rfl
    have HOK := dhid hok
    clear hcb hok hx h
    obtain ⟨n, hn⟩ : ∃ n, n = L.length := ⟨_, rfl⟩
    rw [← hn] at HOK ⊢
    clear hn
    go_enter Try.func31, Try.ntmps31
    go_wp2_with fail
    refine HOK.out.mono ?_
    rintro e w3 ⟨rfl, hb3⟩
    go_wp2_with fail
    go_ret
    exact ⟨by rw [HV.out]; rfl, hb3⟩
  | true =>
    rw [hcb] at hok
    have hV : cbI L = (cbN L : Int) := by unfold cbI; rw [hcb]; rfl
    rw [hV]
    by_cases h0 : 0 < L.length
    · obtain ⟨g, rfl, hg⟩ := hx h0
      exact cb_yes g c L.length L rfl w hl hcb hok hg
    · have e0 : L = [] := List.length_eq_zero_iff.1 (by omega)
      subst e0
      have HOK : Hid (Calls Try.prog 16 #[.slice a 0 c] w fun e w' => e = .returned (.bool true) ∧ Below w.heap.size w w') := hok
      clear hok hx h hcb hV h0
      show Calls Try.prog 31 #[.slice a 0 c] w fun e w' => e = .returned (.int .i64 0) ∧ Below w.heap.size w w'
      go_enter Try.func31, Try.ntmps31
      go_wp2_with fail
      refine HOK.out.mono ?_
      rintro e w3 ⟨rfl, hb3⟩
      go_wp2_with fail
      refine wp_loop_rounds 1 ?_
      rw [rounds_succ]
      go_wp2_with fail
      go_ret
      exact ⟨rfl, hb3⟩
set_option maxRecDepth 100000 in
theorem scb_any (v : Value) (L : List LkI) (bs : List Nat) (w : World) (hl : LkLe L) (h : Hd w (lksD L) v bs) :
    Calls Try.prog 30 #[v] w fun e w' => e = .returned (.int .i64 (cbI L)) ∧ Below w.heap.size w w' := by
  have hok := schain_any v L bs w hl h
  obtain ⟨a, c, rfl, hx⟩ := lks_at h
  cases hcb : chB L with
  | false =>
    rw [hcb] at hok
    have HV : Hid (cbI L = -1) := by show cbI L = -1; unfold cbI; rw [hcb]; rfl
    have HOK := dhid hok
    clear hcb hok hx h
    obtain ⟨n, hn⟩ : ∃ n, n = L.length := ⟨_, rfl⟩
    rw [← hn] at HOK ⊢
    clear hn
    go_enter Try.func30, Try.ntmps30
    go_wp2_with fail
    refine HOK.out.mono ?_
    rintro e w3 ⟨rfl, hb3⟩
    go_wp2_with fail
    go_ret
    exact ⟨by rw [HV.out]; rfl, hb3⟩
  | true =>
    rw [hcb] at hok
    have hV : cbI L = (cbN L : Int) := by unfold cbI; rw [hcb]; rfl
    rw [hV]
    by_cases h0 : 0 < L.length
    · obtain ⟨g, rfl, hg⟩ := hx h0
      exact scb_yes g c L.length L rfl w hl hcb hok hg
    · have e0 : L = [] := List.length_eq_zero_iff.1 (by omega)
      subst e0
      have HOK : Hid (Calls Try.prog 14 #[.slice a 0 c] w fun e w' => e = .returned (.bool true) ∧ Below w.heap.size w w') := hok
      clear hok hx h hcb hV h0
      show Calls Try.prog 30 #[.slice a 0 c] w fun e w' => e = .returned (.int .i64 0) ∧ Below w.heap.size w w'
      go_enter Try.func30, Try.ntmps30
      go_wp2_with fail
      refine HOK.out.mono ?_
      rintro e w3 ⟨rfl, hb3⟩
      go_wp2_with fail
      refine wp_loop_rounds 1 ?_
      rw [rounds_succ]
      go_wp2_with fail
      go_ret
      exact ⟨rfl, hb3⟩
end Go.Proofs.Ytpeddaljgmkomaa
