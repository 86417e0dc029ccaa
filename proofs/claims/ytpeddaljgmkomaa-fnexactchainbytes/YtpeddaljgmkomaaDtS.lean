/-
  The text of pieces: the specification's.
-/
import Derived.Test.YtpeddaljgmkomaaDtM
import Derived.Test.YtpeddaljgmkomaaPcsS
import Derived.Test.YtpeddaljgmkomaaHeld
namespace Go.Proofs.Ytpeddaljgmkomaa
open Go.RowKit
set_option linter.unusedVariables false
set_option linter.unusedSimpArgs false
set_option maxRecDepth 100000 in
theorem sl1Put_any (m : Nat) (w : World) (hm : m < 9223372036854775808) : Calls Try.prog 73 #[.int .i64 (m : Int)] w fun e w' => e = .returned (.string (putB m)) ∧ Below w.heap.size w w' := by
  have hw : IntKind.u64.wrap (m : Int) = (m : Int) := by rw [IntKind.wrap_u64]; omega
  have HP : Hid (∀ w, Calls Try.prog 97 #[.int .u64 (m : Int)] w fun e w' => e = .returned (.string (putB m)) ∧ Below w.heap.size w w') := fun w => sput_any m w (by omega)
  go_enter Try.func73, Try.ntmps73
  go_wp2_with fail
  refine (HP.out _).mono ?_
  rintro e w1 ⟨rfl, hb1⟩
  go_wp2_with fail
  go_ret
  exact ⟨rfl, hb1⟩
set_option maxRecDepth 100000 in
set_option maxHeartbeats 4000000 in
theorem sdt_yes (a : Option Addr) (c n : Nat) (F : Nat → PcI) (w : World) (hF : PcLe F n) (hok : pcR F n 4000) (hr : 0 < n → ∃ g, a = some ⟨g, 0, none⟩ ∧ PcRow w g n F) :
    Calls Try.prog 47 #[.slice a n c] w fun e w' => e = .returned (.string (dtB F n n)) ∧ Below w.heap.size w w' := by
  have hnI : (n : Int) ≤ 500 := by have := hok.2.2.1; omega
  have HK : Hid (∀ w, PcArg w (.slice a n c) n F → Calls Try.prog 68 #[.int .i64 4000, .slice a n c] w fun e w' => e = .returned (.bool true) ∧ Below w.heap.size w w') := fun w h => by
    have h2 := spcs_any (.slice a n c) n F 4000 w hF h
    rw [pcB_yes hok] at h2
    exact h2
  have HP : Hid (∀ (m : Nat) w, m < 9223372036854775808 → Calls Try.prog 73 #[.int .i64 (m : Int)] w fun e w' => e = .returned (.string (putB m)) ∧ Below w.heap.size w w') := fun m w h => sl1Put_any m w h
  have HPT : Hid (∀ (s : ByteArray) w, s.size ≤ 1048576 → Calls Try.prog 74 #[.string s] w fun e w' => e = .returned (.string (putTextOut s)) ∧ Below w.heap.size w w') := fun s w h => sputText_any s w (by omega)
  have HR : Hid (∀ w', Below w.heap.size w w' → 0 < n → ∃ g, a = some ⟨g, 0, none⟩ ∧ PcRow w' g n F ∧ g < w.heap.size) := fun w' hb h0 => by
    obtain ⟨g, h1, h2⟩ := hr h0
    exact ⟨g, h1, h2.below hb h2.lt, h2.lt⟩
  have HA : Hid (PcArg w (.slice a n c) n F) := ⟨a, c, rfl, hr⟩
  have HO : Hid (pcR F n 4000 ∧ ∀ i, i < n → (F i).d.size ≤ 1048576) := ⟨hok, hF.d⟩
  have hpn := putB_size (n := n) (by omega)
  clear hr hok hF
  go_enter Try.func47, Try.ntmps47
  go_wp2_with fail
  refine (HK.out _ HA.out).mono ?_
  rintro e w1 ⟨rfl, hb1⟩
  have HB1 : Hid (Below w.heap.size w w1) := hb1
  clear hb1 HA HK
  go_wp2_with fail
  refine (HP.out n _ (by omega)).mono ?_
  rintro e w2 ⟨rfl, hb2⟩
  have HB3 : Hid (Below w.heap.size w w2) := bl3 HB1.out hb2 HB1.out.size
  clear hb2 HB1
  go_wp2_with fail
  go_loopw [3, 4] (fun u v wr => ∃ (i : Nat), i ≤ n ∧ v = .int .i64 (i : Int) ∧ u = .string (dtB F n i) ∧ Hid (Below w.heap.size w wr)) (fun _ v _ => n - (intN v).toNat)
  case atStart => exact ⟨0, by omega, rfl, rfl, HB3⟩
  case round =>
    clear HB3
    obtain ⟨i, hi, rfl, rfl, HB⟩ := hrel
    by_cases hlt : i < n
    · have hltI : (i : Int) < (n : Int) := by omega
      obtain ⟨g, rfl, hrow, hgl⟩ := HR.out _ HB.out (by omega)
      have HGL : Hid (g < w.heap.size) := hgl
      obtain ⟨q, hq⟩ : ∃ q, q = 3 * i := ⟨_, rfl⟩
      have x0 := hrow.c0 i hlt
      have x1 := hrow.c1 i hlt
      have x2 := hrow.c2 i hlt
      rw [← hq] at x0 x1 x2
      have hiq : i * 3 = q := by omega
      have hp := HO.out.1.2.2.2.1 i hlt
      have hdi := HO.out.2 i hlt
      have hle := dtB_size (F := F) (n := n) (i := i) (by omega) (fun j hj => HO.out.2 j (by omega)) (fun j hj => HO.out.1.2.2.2.1 j (by omega))
      have hle2 : (dtB F n i).size ≤ 1000000000 := by omega
      have HY : Hid ((F i).d ≠ ⟨#[]⟩ → dtB F n (i + 1) = dtB F n i ++ putTextOut (F i).d) := fun h => dtB_yes h
      have HN : Hid ((F i).d = ⟨#[]⟩ → dtB F n (i + 1) = ((dtB F n i ++ putTextOut ⟨#[]⟩) ++ putB (F i).f.toNat) ++ putB (F i).l.toNat) := fun h => dtB_no h
      clear hrow hq hle hgl
      generalize F i = p at x0 x1 x2 hp HY HN hdi
      generalize dtB F n i = acc at hle2 HY HN ⊢
      obtain ⟨f, l, d⟩ := p
      simp only at x0 x1 x2 hdi HY HN
      have htx := putT_size hdi
      go_wp2_with fail
      refine (HPT.out d _ hdi).mono ?_
      rintro e w4 ⟨rfl, hb4⟩
      have HB4 : Hid (Below w.heap.size w w4) := bl3 HB.out hb4 HB.out.size
      have y0 : w4.cell? ⟨g, q, none⟩ = some (.int .i64 f) := (HB4.out.cell (p := ⟨g, q, none⟩) HGL.out).trans ((HB.out.cell (p := ⟨g, q, none⟩) HGL.out).symm.trans x0)
      have y1 : w4.cell? ⟨g, q + 1, none⟩ = some (.int .i64 l) := (HB4.out.cell (p := ⟨g, q + 1, none⟩) HGL.out).trans ((HB.out.cell (p := ⟨g, q + 1, none⟩) HGL.out).symm.trans x1)
      have y2 : w4.cell? ⟨g, q + 2, none⟩ = some (.string d) := (HB4.out.cell (p := ⟨g, q + 2, none⟩) HGL.out).trans ((HB.out.cell (p := ⟨g, q + 2, none⟩) HGL.out).symm.trans x2)
      clear hb4 HB x0 x1 x2
      rcases hp with ⟨h, h1, h2, h3, h4⟩ | ⟨h, h1, h2⟩
      · simp only at h h1 h2 h3 h4
        subst h
        obtain ⟨f2, rfl⟩ : ∃ f2 : Nat, f = (f2 : Int) := ⟨f.toNat, by omega⟩
        obtain ⟨l2, rfl⟩ : ∃ l2 : Nat, l = (l2 : Int) := ⟨l.toNat, by omega⟩
        have hN2 := HN.out rfl
        simp only [Int.toNat_natCast] at hN2
        obtain ⟨acc2, hacc⟩ : ∃ acc2, acc2 = acc ++ putTextOut ⟨#[]⟩ := ⟨_, rfl⟩
        have HN2 : Hid (dtB F n (i + 1) = (acc2 ++ putB f2) ++ putB l2) := by rw [hacc]; exact hN2
        have ha2 : acc2.size ≤ 1100000000 := by rw [hacc, ByteArray.size_append]; omega
        have hpf := putB_size (n := f2) (by omega)
        have hpl := putB_size (n := l2) (by omega)
        have hs1 := ByteArray.size_append (a := acc2) (b := putB f2)
        have HACC : Hid (acc2 = acc ++ putTextOut ⟨#[]⟩) := hacc
        obtain ⟨S, hSS⟩ : ∃ S : World → Prop, S = fun w' => Below w.heap.size w w' := ⟨_, rfl⟩
        have HS : Hid _ := hSS
        have hSd : S w4.drew := by rw [hSS]; exact HB4.out.drew
        have HX : Hid (∀ w', S w' → w'.cell? ⟨g, q, none⟩ = some (.int .i64 (f2 : Int)) ∧ w'.cell? ⟨g, q + 1, none⟩ = some (.int .i64 (l2 : Int))) := fun w' hw' => by
          rw [hSS] at hw'
          exact ⟨(hw'.cell (p := ⟨g, q, none⟩) HGL.out).trans ((HB4.out.cell (p := ⟨g, q, none⟩) HGL.out).symm.trans y0), (hw'.cell (p := ⟨g, q + 1, none⟩) HGL.out).trans ((HB4.out.cell (p := ⟨g, q + 1, none⟩) HGL.out).symm.trans y1)⟩
        clear HN HY hN2 hSS hacc
        go_wp2_with fail
        rw [← HACC.out]
        refine wp_region_held (S := S) (by kernel_rfl) ?_
        change wpAnyH _ _ _ _ _ _ _ _ (World.drew _)
        refine wpAnyH_take (i := 0) (v := .string acc2) rfl (by kernel_rfl) (by kernel_rfl) (by kernel_rfl) (fun _ _ _ h => h) (Or.inl ⟨by rfl, by intro w' hS'; go_simp <;> (first | omega | (rw [IntKind.wrap_i64]; omega) | (rw [IntKind.wrap_u64]; omega) | (rw [IntKind.wrap_u32]; omega) | (rw [Int.tmod_eq_emod_of_nonneg (by omega)]) | rfl)⟩) hSd ?_
        (try simp only [List.getElem_toArray, List.getElem_cons_succ, List.getElem_cons_zero, Act.put, List.setIfInBounds_toArray, List.set_cons_zero, List.set_cons_succ])
        refine wpAnyH_take (i := 1) (v := .slice (some ⟨g, 0, none⟩) n c) rfl (by kernel_rfl) (by kernel_rfl) (by kernel_rfl) (fun _ _ _ h => h) (Or.inl ⟨by rfl, by intro w' hS'; go_simp <;> (first | omega | (rw [IntKind.wrap_i64]; omega) | (rw [IntKind.wrap_u64]; omega) | (rw [IntKind.wrap_u32]; omega) | (rw [Int.tmod_eq_emod_of_nonneg (by omega)]) | rfl)⟩) hSd ?_
        (try simp only [List.getElem_toArray, List.getElem_cons_succ, List.getElem_cons_zero, Act.put, List.setIfInBounds_toArray, List.set_cons_zero, List.set_cons_succ])
        refine wpAnyH_take (i := 2) (v := .int .i64 (i : Int)) rfl (by kernel_rfl) (by kernel_rfl) (by kernel_rfl) (fun _ _ _ h => h) (Or.inl ⟨by rfl, by intro w' hS'; go_simp <;> (first | omega | (rw [IntKind.wrap_i64]; omega) | (rw [IntKind.wrap_u64]; omega) | (rw [IntKind.wrap_u32]; omega) | (rw [Int.tmod_eq_emod_of_nonneg (by omega)]) | rfl)⟩) hSd ?_
        (try simp only [List.getElem_toArray, List.getElem_cons_succ, List.getElem_cons_zero, Act.put, List.setIfInBounds_toArray, List.set_cons_zero, List.set_cons_succ])
        refine wpAnyH_take (i := 3) (v := .pointer (some ⟨g, q, none⟩)) rfl (by kernel_rfl) (by kernel_rfl) (by kernel_rfl) (fun _ _ _ h => h) (Or.inl ⟨by rfl, by intro w' hS'; go_simp <;> (first | omega | (rw [IntKind.wrap_i64]; omega) | (rw [IntKind.wrap_u64]; omega) | (rw [IntKind.wrap_u32]; omega) | (rw [Int.tmod_eq_emod_of_nonneg (by omega)]) | rfl)⟩) hSd ?_
        (try simp only [List.getElem_toArray, List.getElem_cons_succ, List.getElem_cons_zero, Act.put, List.setIfInBounds_toArray, List.set_cons_zero, List.set_cons_succ])
        refine wpAnyH_take (i := 4) (v := .pointer (some ⟨g, q, none⟩)) rfl (by kernel_rfl) (by kernel_rfl) (by kernel_rfl) (fun _ _ _ h => h) (Or.inl ⟨by rfl, by intro w' hS'; go_simp <;> (first | omega | (rw [IntKind.wrap_i64]; omega) | (rw [IntKind.wrap_u64]; omega) | (rw [IntKind.wrap_u32]; omega) | (rw [Int.tmod_eq_emod_of_nonneg (by omega)]) | rfl)⟩) hSd ?_
        (try simp only [List.getElem_toArray, List.getElem_cons_succ, List.getElem_cons_zero, Act.put, List.setIfInBounds_toArray, List.set_cons_zero, List.set_cons_succ])
        refine wpAnyH_take (i := 5) (v := .int .i64 (f2 : Int)) rfl (by kernel_rfl) (by kernel_rfl) (by kernel_rfl) (fun _ _ _ h => h) (Or.inl ⟨by rfl, by intro w' hS'; obtain ⟨k5, k6⟩ := HX.out w' hS'; go_simp <;> (first | omega | (rw [IntKind.wrap_i64]; omega) | (rw [IntKind.wrap_u64]; omega) | (rw [IntKind.wrap_u32]; omega) | (rw [Int.tmod_eq_emod_of_nonneg (by omega)]) | rfl)⟩) hSd ?_
        (try simp only [List.getElem_toArray, List.getElem_cons_succ, List.getElem_cons_zero, Act.put, List.setIfInBounds_toArray, List.set_cons_zero, List.set_cons_succ])
        refine wpAnyH_take (i := 8) (v := .slice (some ⟨g, 0, none⟩) n c) rfl (by kernel_rfl) (by kernel_rfl) (by kernel_rfl) (fun _ _ _ h => h) (Or.inl ⟨by rfl, by intro w' hS'; go_simp <;> (first | omega | (rw [IntKind.wrap_i64]; omega) | (rw [IntKind.wrap_u64]; omega) | (rw [IntKind.wrap_u32]; omega) | (rw [Int.tmod_eq_emod_of_nonneg (by omega)]) | rfl)⟩) hSd ?_
        (try simp only [List.getElem_toArray, List.getElem_cons_succ, List.getElem_cons_zero, Act.put, List.setIfInBounds_toArray, List.set_cons_zero, List.set_cons_succ])
        refine wpAnyH_take (i := 9) (v := .int .i64 (i : Int)) rfl (by kernel_rfl) (by kernel_rfl) (by kernel_rfl) (fun _ _ _ h => h) (Or.inl ⟨by rfl, by intro w' hS'; go_simp <;> (first | omega | (rw [IntKind.wrap_i64]; omega) | (rw [IntKind.wrap_u64]; omega) | (rw [IntKind.wrap_u32]; omega) | (rw [Int.tmod_eq_emod_of_nonneg (by omega)]) | rfl)⟩) hSd ?_
        (try simp only [List.getElem_toArray, List.getElem_cons_succ, List.getElem_cons_zero, Act.put, List.setIfInBounds_toArray, List.set_cons_zero, List.set_cons_succ])
        refine wpAnyH_take (i := 10) (v := .pointer (some ⟨g, q, none⟩)) rfl (by kernel_rfl) (by kernel_rfl) (by kernel_rfl) (fun _ _ _ h => h) (Or.inl ⟨by rfl, by intro w' hS'; go_simp <;> (first | omega | (rw [IntKind.wrap_i64]; omega) | (rw [IntKind.wrap_u64]; omega) | (rw [IntKind.wrap_u32]; omega) | (rw [Int.tmod_eq_emod_of_nonneg (by omega)]) | rfl)⟩) hSd ?_
        (try simp only [List.getElem_toArray, List.getElem_cons_succ, List.getElem_cons_zero, Act.put, List.setIfInBounds_toArray, List.set_cons_zero, List.set_cons_succ])
        refine wpAnyH_take (i := 11) (v := .pointer (some ⟨g, q + 1, none⟩)) rfl (by kernel_rfl) (by kernel_rfl) (by kernel_rfl) (fun _ _ _ h => h) (Or.inl ⟨by rfl, by intro w' hS'; go_simp <;> (first | omega | (rw [IntKind.wrap_i64]; omega) | (rw [IntKind.wrap_u64]; omega) | (rw [IntKind.wrap_u32]; omega) | (rw [Int.tmod_eq_emod_of_nonneg (by omega)]) | rfl)⟩) hSd ?_
        (try simp only [List.getElem_toArray, List.getElem_cons_succ, List.getElem_cons_zero, Act.put, List.setIfInBounds_toArray, List.set_cons_zero, List.set_cons_succ])
        refine wpAnyH_take (i := 12) (v := .int .i64 (l2 : Int)) rfl (by kernel_rfl) (by kernel_rfl) (by kernel_rfl) (fun _ _ _ h => h) (Or.inl ⟨by rfl, by intro w' hS'; obtain ⟨k5, k6⟩ := HX.out w' hS'; go_simp <;> (first | omega | (rw [IntKind.wrap_i64]; omega) | (rw [IntKind.wrap_u64]; omega) | (rw [IntKind.wrap_u32]; omega) | (rw [Int.tmod_eq_emod_of_nonneg (by omega)]) | rfl)⟩) hSd ?_
        (try simp only [List.getElem_toArray, List.getElem_cons_succ, List.getElem_cons_zero, Act.put, List.setIfInBounds_toArray, List.set_cons_zero, List.set_cons_succ])
        refine held_stepS (i := 6) (by kernel_rfl) rfl (by rfl) ?_
        go_simp
        refine (HP.out f2 _ (by omega)).mono ?_
        rintro e w5 ⟨rfl, hb⟩
        have hSw5 : S w5 := by rw [HS.out]; have hx := hSd; rw [HS.out] at hx; exact bl3 hx hb hx.size
        clear hb
        refine ⟨hSw5, ?_⟩
        (try simp only [List.getElem_toArray, List.getElem_cons_succ, List.getElem_cons_zero, Act.put, List.setIfInBounds_toArray, List.set_cons_zero, List.set_cons_succ])
        refine wpAnyH_take (i := 7) (v := .string (acc2 ++ putB f2)) rfl (by kernel_rfl) (by kernel_rfl) (by kernel_rfl) (fun _ _ _ h => h) (Or.inl ⟨by rfl, by intro w' hS'; go_simp <;> (first | omega | (rw [IntKind.wrap_i64]; omega) | (rw [IntKind.wrap_u64]; omega) | (rw [IntKind.wrap_u32]; omega) | (rw [Int.tmod_eq_emod_of_nonneg (by omega)]) | rfl)⟩) hSw5 ?_
        (try simp only [List.getElem_toArray, List.getElem_cons_succ, List.getElem_cons_zero, Act.put, List.setIfInBounds_toArray, List.set_cons_zero, List.set_cons_succ])
        refine held_stepS (i := 13) (by kernel_rfl) rfl (by rfl) ?_
        go_simp
        refine (HP.out l2 _ (by omega)).mono ?_
        rintro e w6 ⟨rfl, hb⟩
        have hSw6 : S w6 := by rw [HS.out]; have hx := hSw5; rw [HS.out] at hx; exact bl3 hx hb hx.size
        clear hb
        refine ⟨hSw6, ?_⟩
        (try simp only [List.getElem_toArray, List.getElem_cons_succ, List.getElem_cons_zero, Act.put, List.setIfInBounds_toArray, List.set_cons_zero, List.set_cons_succ])
        refine wpAnyH_take (i := 14) (v := .string ((acc2 ++ putB f2) ++ putB l2)) rfl (by kernel_rfl) (by kernel_rfl) (by kernel_rfl) (fun _ _ _ h => h) (Or.inl ⟨by rfl, by intro w' hS'; go_simp <;> (first | omega | (rw [IntKind.wrap_i64]; omega) | (rw [IntKind.wrap_u64]; omega) | (rw [IntKind.wrap_u32]; omega) | (rw [Int.tmod_eq_emod_of_nonneg (by omega)]) | rfl)⟩) hSw6 ?_
        (try simp only [List.getElem_toArray, List.getElem_cons_succ, List.getElem_cons_zero, Act.put, List.setIfInBounds_toArray, List.set_cons_zero, List.set_cons_succ])
        refine wpAnyH_take (i := 15) (v := .string ((acc2 ++ putB f2) ++ putB l2)) rfl (by kernel_rfl) (by kernel_rfl) (by kernel_rfl) (fun _ _ _ h => h) (Or.inl ⟨by rfl, by intro w' hS'; go_simp <;> (first | omega | (rw [IntKind.wrap_i64]; omega) | (rw [IntKind.wrap_u64]; omega) | (rw [IntKind.wrap_u32]; omega) | (rw [Int.tmod_eq_emod_of_nonneg (by omega)]) | rfl)⟩) hSw6 ?_
        (try simp only [List.getElem_toArray, List.getElem_cons_succ, List.getElem_cons_zero, Act.put, List.setIfInBounds_toArray, List.set_cons_zero, List.set_cons_succ])
        refine wpAnyH_done (by kernel_rfl) ?_ _
        have HBE : Hid (Below w.heap.size w w6) := by have hx := hSw6; rw [HS.out] at hx; exact hx
        go_wp2_with fail
        go_roundw
        case rel => exact ⟨i + 1, by omega, by go_num, by rw [HN2.out]; try rfl, HBE⟩
        case measure => simp [intN]; omega
      · simp only at h h1 h2
        have HNE : Hid (dtB F n (i + 1) = acc ++ putTextOut d) := HY.out h
        have he := d_ne h
        clear h HN HY
        go_wp2_with fail
        go_roundw
        case rel => exact ⟨i + 1, by omega, by go_num, by rw [HNE.out]; try rfl, HB4⟩
        case measure => simp [intN]; omega
    · obtain rfl : i = n := by omega
      go_wp2_with fail
      go_ret
      exact ⟨rfl, HB.out⟩
set_option maxRecDepth 100000 in
theorem sdt_no (v : Value) (n : Nat) (F : Nat → PcI) (w : World) (hF : PcLe F n) (hok : ¬ pcR F n 4000) (hr : PcArg w v n F) :
    Calls Try.prog 47 #[v] w fun e w' => e = .returned (.string ⟨#[]⟩) ∧ Below w.heap.size w w' := by
  have HK : Hid (Calls Try.prog 68 #[.int .i64 4000, v] w fun e w' => e = .returned (.bool false) ∧ Below w.heap.size w w') := by
    have h2 := spcs_any v n F 4000 w hF hr
    rw [pcB_no hok] at h2
    exact h2
  obtain ⟨a, c, rfl, _⟩ := hr
  clear hok hF
  go_enter Try.func47, Try.ntmps47
  go_wp2_with fail
  refine HK.out.mono ?_
  rintro e w1 ⟨rfl, hb1⟩
  go_wp2_with fail
  go_ret
  exact ⟨rfl, hb1⟩
theorem sdt_any (v : Value) (n : Nat) (F : Nat → PcI) (w : World) (hF : PcLe F n) (hr : PcArg w v n F) :
    Calls Try.prog 47 #[v] w fun e w' => e = .returned (.string (dtV F n)) ∧ Below w.heap.size w w' := by
  by_cases h : pcR F n 4000
  · rw [dtV_yes h]
    obtain ⟨a, c, rfl, hr⟩ := hr
    exact sdt_yes a c n F w hF h hr
  · rw [dtV_no h]
    exact sdt_no v n F w hF h hr
end Go.Proofs.Ytpeddaljgmkomaa
