/-
  Several texts of this seat as one: DoC, AvC, CpS.
-/
import Derived.Test.YtpeddaljgmkomaaPk25
import Derived.Test.YtpeddaljgmkomaaPk04
import Derived.Test.YtpeddaljgmkomaaPk23
import Derived.Test.YtpeddaljgmkomaaPk08
import Derived.Test.YtpeddaljgmkomaaPk14

/-!   The code's DeltaOf. -/
namespace Go.Proofs.Ytpeddaljgmkomaa
open Go.RowKit
set_option linter.unusedVariables false
set_option linter.unusedSimpArgs false
theorem row_apD {w : World} {B n g0 : Nat} {e t : TypeId} {z : Nat} {v : Value} {xs : List Value} {cs : Array Value} {m : Nat × Nat} (hte : t ≠ e) (h : w.ownsRow B e z v n xs) (hb : w.heap[g0]? = some (.cells cs t m)) : some g0 ≠ v.ownBlock := by
  obtain ⟨hl, ⟨h0, hn⟩ | ⟨g, cap, cur, h1, h2, h3, _⟩⟩ := h
  · subst h0; intro c; cases c
  · subst h1
    intro c
    have c : some g0 = some g := c
    injection c with c
    subst c
    rw [h3] at hb
    injection hb with hb
    injection hb with _ hb _
    exact hte hb.symm
set_option maxRecDepth 100000 in
set_option maxHeartbeats 2000000 in
theorem withData_any {B : Nat} {v : Value} {acc : List PcI} (d : ByteArray) (w : World) (hd : d.size ≤ 4000) (ha : acc.length ≤ 4100) (h : w.ownsRow B 89 3 v acc.length (pcC acc)) (hB : B ≤ w.heap.size) :
    Calls Try.prog 100 #[v, .string d] w fun e w' => (∃ v', e = .returned v' ∧ w'.ownsRow B 89 3 v' (wDat acc d).length (pcC (wDat acc d))) ∧ Below B w w' ∧ ∀ (k : Nat) (cs : Array Value), w.heap[k]? = some (.cells cs 118 (0, 0)) → w'.heap[k]? = some (.cells cs 118 (0, 0)) := by
  obtain ⟨i0, hi, hz0, hz1, hz2⟩ := info_parts Try.infP
  by_cases h0 : d.size = 0
  · have hde := do_zero h0
    rw [wDat_no h0]
    subst hde
    have H := hid h
    clear h h0 hd
    go_enter Try.func100, Try.ntmps100
    go_wp2_with fail
    go_ret
    exact ⟨⟨_, rfl, H.out⟩, Below.refl _ _, fun k cs h => h⟩
  · have hde := do_ne (d := d) (by omega)
    have HCL : Hid (∀ w, Calls Try.prog 50 #[.string d] w fun e w' => e = .returned (.string d) ∧ Below w.heap.size w w') := fun w => clone_any d w (by omega)
    rw [wDat_yes h0]
    have H := hid h
    clear h h0
    go_enter Try.func100, Try.ntmps100
    go_wp2_with fail
    refine (HCL.out _).mono ?_
    rintro e w1 ⟨rfl, hb1⟩
    have H1 := hid (own3_call H.out hb1)
    have HB1 := hid hb1
    have hsz := hb1.size
    clear hb1
    go_wp2_with (at_builtin; (refine wpList_append_own _ rfl _ _ 52 rfl B 89 i0 _ 3 32 Try.underlying52 hi hz0 hz1 hz2 rfl (by decide) _ _ _ rfl (H1.out.alloc _) ⟨w1.heap.size, 0, none⟩ 1 1 [_, _, _] rfl rfl (cell_three_at rfl) ?c2 ?c3 ?c4 ?c5 ?_))
    case c2 => first | exact three_one _ _ _ | exact ⟨rfl, rfl⟩ | simp [Value.oneCell']
    case c3 => unfold maxLen; omega
    case c4 => omega
    case c5 => first | omega | (rw [World.size_alloc]; omega)
    intro v' w4 hown' hgrow _
    have HR : Hid (w4.ownsRow B 89 3 v' (acc ++ [(⟨0, 0, d⟩ : PcI)]).length (pcC (acc ++ [(⟨0, 0, d⟩ : PcI)]))) := by
      have h1 := hown'
      have e : pcC acc ++ [.int .i64 0, .int .i64 0, .string d] = pcC (acc ++ [(⟨0, 0, d⟩ : PcI)]) := pcC_snoc acc ⟨0, 0, d⟩
      rw [e] at h1
      rw [List.length_append]; exact h1
    have HBB : Hid (Below B w w4) := ((HB1.out.mono hB).alloc (by omega) _).grown hgrow (by simp; omega) (fun k hk => (H1.out.lt k hk).1)
    have HK : Hid (∀ (k : Nat) (cs : Array Value), w.heap[k]? = some (.cells cs 118 (0, 0)) → w4.heap[k]? = some (.cells cs 118 (0, 0))) := fun k cs hk => by
      have hk1 := (HB1.out.block k (Array.getElem?_eq_some_iff.1 hk).1).trans hk
      have hl1 := (Array.getElem?_eq_some_iff.1 hk1).1
      exact (hgrow.block k (by simp; omega) (row_apD (by decide) H1.out hk1)).trans ((Below.heap_alloc _ _ _ hl1).trans hk1)
    clear hown' hgrow H H1 HB1
    go_wp2_with fail
    go_ret
    exact ⟨⟨_, rfl, HR.out⟩, HBB.out, HK.out⟩
set_option maxRecDepth 100000 in
set_option maxHeartbeats 4000000 in
theorem do_go (o s : ByteArray) (w : World) (ho : o.size ≤ 4000) (hs : s.size ≤ 4000) :
    Calls Try.prog 76 #[.string o, .string s] w fun e w' => DoPost w (doD o s) e w' := by
  obtain ⟨Z, hZ⟩ : ∃ Z, Z = doL o s := ⟨_, rfl⟩
  have HZ0 : Hid (Z = dl o s s.size 0 0 []) := hZ
  obtain ⟨A, hA⟩ : ∃ A, A = doD o s := ⟨_, rfl⟩
  have HAN : Hid (500 < Z.length → A = none) := fun h => by rw [hA]; unfold doD; rw [if_neg (by omega), if_pos (by rw [← hZ]; exact h)]
  have HAY : Hid (¬ 500 < Z.length → A = some Z) := fun h => by rw [hA]; unfold doD; rw [if_neg (by omega), ← hZ, if_neg h]
  rw [← hA]
  obtain ⟨i0, hi, hz0, hz1, hz2⟩ := info_parts Try.infP
  have hinf : Option.map (·.size) (Try.prog.info? 118) = some 3 := by kernel_rfl
  have hoI : ¬ (4000 : Int) < (o.size : Int) := by omega
  have hsI : ¬ (4000 : Int) < (s.size : Int) := by omega
  have HPL : Hid (Calls Try.prog 98 #[.string o] w fun e w' => (e = .returned (.agg #[.string o, .map (some (w.heap.size + 1)), .slice (some ⟨w.heap.size + 2, 0, none⟩) o.size o.size]) ∧ PO6 o w.heap.size w') ∧ Below w.heap.size w w') := places6_any o w ho
  clear hZ hA
  go_enter Try.func76, Try.ntmps76
  go_wp2_with fail
  refine HPL.out.mono ?_
  rintro e w1 ⟨⟨rfl, hP⟩, hb1⟩
  have HB1 := hid hb1
  have HP := hid hP
  obtain ⟨W, hW⟩ : ∃ W, W = w1.alloc (.cells #[.string o, .map (some (w.heap.size + 1)), .slice (some ⟨w.heap.size + 2, 0, none⟩) o.size o.size] 118) := ⟨_, rfl⟩
  have HST : Hid (W.heap[w1.heap.size]? = some (.cells (opV o w.heap.size) 118 (0, 0))) := by rw [hW]; exact heap_alloc_new w1 _
  have HD0 : Hid (DO w1 W (.slice none 0 0) []) := ⟨⟨rfl, Or.inl ⟨rfl, rfl⟩⟩, by rw [hW]; exact (Below.refl _ _).alloc (Nat.le_refl _) _⟩
  clear hP hb1 HPL
  go_wp2_with fail
  try rw [← hW]
  clear hW
  go_loopw [7, 8, 9] (fun x y c wr => ∃ (k a t : Nat) (acc : List PcI) (v : Value), v = x ∧ t ≤ a ∧ a ≤ s.size ∧ s.size ≤ a + k ∧ acc.length ≤ t ∧ y = .int .i64 (t : Int) ∧ c = .int .i64 (a : Int) ∧ Hid (Z = dl o s k a t acc) ∧ Hid (DO w1 wr v acc) ∧ Hid (wr.heap[w1.heap.size]? = some (.cells (opV o w.heap.size) 118 (0, 0)))) (fun _ _ c _ => s.size - (lonIntOf c).toNat)
  case atStart => exact ⟨s.size, 0, 0, [], _, rfl, by omega, by omega, by omega, by simp, rfl, rfl, HZ0, HD0, HST⟩
  case round =>
    clear HD0 HZ0 HST
    obtain ⟨k, a, t, acc, v, rfl, hta, has, hk, hal, rfl, rfl, HZ, HD, HST⟩ := hrel
    by_cases hlt : a < s.size
    · have hltI : (a : Int) < (s.size : Int) := by omega
      have haI : (a : Int) ≤ (s.size : Int) := by omega
      obtain ⟨k, rfl⟩ : ∃ j, k = j + 1 := ⟨k - 1, by omega⟩
      obtain ⟨F, hF⟩ : ∃ F, F = (lg o s a).1 := ⟨_, rfl⟩
      obtain ⟨n, hn⟩ : ∃ n, n = (lg o s a).2 := ⟨_, rfl⟩
      have hble := (bo_le o s a).2.1
      have HBY : Hid (n = 0 → Z = dl o s k (a + 1) t acc) := fun h => by
        have h6 : (bo o s a).2 < 6 := by
          rw [hn] at h
          unfold lg at h
          split at h
          · assumption
          · rename_i c; have h : (bo o s a).2 = 0 := h; omega
        rw [HZ.out, dl_byte hlt h6]
      have HPC : Hid (n ≠ 0 → 6 ≤ n ∧ n ≤ s.size - a ∧ Z = dl o s k (a + n) (a + n) (wDat acc (s.extract t a) ++ [⟨(F : Int), (n : Int), ⟨#[]⟩⟩])) := fun h => by
        have h6 : ¬ (bo o s a).2 < 6 := fun c => by
          rw [hn] at h
          unfold lg at h
          rw [if_pos c] at h
          exact h rfl
        have e : lg o s a = ((bo o s a).1 - 1, (bo o s a).2) := by unfold lg; rw [if_neg h6]
        rw [e] at hF hn
        have hF : F = (bo o s a).1 - 1 := hF
        have hn : n = (bo o s a).2 := hn
        rw [hF, hn]
        exact ⟨by omega, hble, by rw [HZ.out, dl_piece hlt h6]⟩
      have HPO : Hid (∀ w', Below w1.heap.size w1 w' → PO6 o w.heap.size w') := fun w' hb => HP.out.below hb HP.out.lt
      have HLN : Hid (Calls Try.prog 99 #[.agg (opV o w.heap.size), .string (s.extract a s.size)] wr.drew fun e w' => e = .returned (.tuple #[.int .i64 (F : Int), .int .i64 (n : Int)]) ∧ Below wr.drew.heap.size wr.drew w') := by
        rw [hF, hn]
        exact longest6_any o s a w.heap.size wr.drew ho hs has (HPO.out _ HD.out.below.drew)
      obtain ⟨S, hSS⟩ : ∃ S : World → Prop, S = fun w' => w'.heap[w1.heap.size]? = some (.cells (opV o w.heap.size) 118 (0, 0)) := ⟨_, rfl⟩
      have HSS := hid hSS
      have hS1 : S wr.drew := by rw [hSS]; exact HST.out
      have HXS : Hid (∀ w', S w' → w'.heap[w1.heap.size]? = some (.cells (opV o w.heap.size) 118 (0, 0))) := fun w' h => by rw [hSS] at h; exact h
      have HTA : Hid (t ≤ a ∧ a < s.size ∧ s.size ≤ a + (k + 1) ∧ acc.length ≤ t) := ⟨hta, hlt, hk, hal⟩
      clear hSS hF hn hble HZ
      go_wp2_with fail
      refine wp_region_held (S := S) (by kernel_rfl) ?_
      change wpAnyH _ _ _ _ _ _ _ _ (World.drew _)
      refine wpAnyH_take (i := 0) (v := .agg (opV o w.heap.size)) rfl (by kernel_rfl) (by kernel_rfl) (by kernel_rfl) (fun _ _ _ h => h) (Or.inl ⟨by rfl, by intro w' hS'; exact yield_load_row 118 _ w1.heap.size (opV o w.heap.size) rfl rfl (run_loadVar_row (P := Try.prog) w' w1.heap.size 118 118 (opV o w.heap.size) (0, 0) _ (HXS.out w' hS') Try.underlying118 rfl hinf)⟩) hS1 ?_
      (try simp only [List.getElem_toArray, List.getElem_cons_succ, List.getElem_cons_zero, Act.put, List.setIfInBounds_toArray, List.set_cons_zero, List.set_cons_succ])
      refine wpAnyH_take (i := 1) (v := .string s) rfl (by kernel_rfl) (by kernel_rfl) (by kernel_rfl) (fun _ _ _ h => h) (Or.inl ⟨by rfl, by intro w' hS'; go_simp <;> (first | omega | (rw [IntKind.wrap_i64]; omega) | (rw [IntKind.wrap_u64]; omega) | (rw [IntKind.wrap_u32]; omega) | (rw [Int.tmod_eq_emod_of_nonneg (by omega)]) | rfl)⟩) hS1 ?_
      (try simp only [List.getElem_toArray, List.getElem_cons_succ, List.getElem_cons_zero, Act.put, List.setIfInBounds_toArray, List.set_cons_zero, List.set_cons_succ])
      refine wpAnyH_take (i := 2) (v := .int .i64 (a : Int)) rfl (by kernel_rfl) (by kernel_rfl) (by kernel_rfl) (fun _ _ _ h => h) (Or.inl ⟨by rfl, by intro w' hS'; go_simp <;> (first | omega | (rw [IntKind.wrap_i64]; omega) | (rw [IntKind.wrap_u64]; omega) | (rw [IntKind.wrap_u32]; omega) | (rw [Int.tmod_eq_emod_of_nonneg (by omega)]) | rfl)⟩) hS1 ?_
      (try simp only [List.getElem_toArray, List.getElem_cons_succ, List.getElem_cons_zero, Act.put, List.setIfInBounds_toArray, List.set_cons_zero, List.set_cons_succ])
      refine wpAnyH_take (i := 3) (v := .string (s.extract a s.size)) rfl (by kernel_rfl) (by kernel_rfl) (by kernel_rfl) (fun _ _ _ h => h) (Or.inl ⟨by rfl, by intro w' hS'; go_simp <;> (first | omega | (rw [IntKind.wrap_i64]; omega) | (rw [IntKind.wrap_u64]; omega) | (rw [IntKind.wrap_u32]; omega) | (rw [Int.tmod_eq_emod_of_nonneg (by omega)]) | rfl)⟩) hS1 ?_
      (try simp only [List.getElem_toArray, List.getElem_cons_succ, List.getElem_cons_zero, Act.put, List.setIfInBounds_toArray, List.set_cons_zero, List.set_cons_succ])
      refine held_stepS (i := 4) (by kernel_rfl) rfl (by rfl) ?_
      go_simp
      refine HLN.out.mono ?_
      rintro e w5 ⟨rfl, hb5⟩
      have HST5 : Hid (w5.heap[w1.heap.size]? = some (.cells (opV o w.heap.size) 118 (0, 0))) := (hb5.block _ (Array.getElem?_eq_some_iff.1 HST.out).1).trans HST.out
      have HD5 : Hid (DO w1 w5 v acc) := DO.call (wr := wr.drew) ⟨HD.out.own, HD.out.below.drew⟩ hb5
      have hS5 : S w5 := by rw [HSS.out]; exact HST5.out
      clear hb5
      refine ⟨hS5, ?_⟩
      (try simp only [List.getElem_toArray, List.getElem_cons_succ, List.getElem_cons_zero, Act.put, List.setIfInBounds_toArray, List.set_cons_zero, List.set_cons_succ])
      refine wpAnyH_take (i := 5) (v := .tuple #[.int .i64 (F : Int), .int .i64 (n : Int)]) rfl (by kernel_rfl) (by kernel_rfl) (by kernel_rfl) (fun _ _ _ h => h) (Or.inl ⟨by rfl, by intro w' hS'; go_simp <;> (first | omega | (rw [IntKind.wrap_i64]; omega) | (rw [IntKind.wrap_u64]; omega) | (rw [IntKind.wrap_u32]; omega) | (rw [Int.tmod_eq_emod_of_nonneg (by omega)]) | rfl)⟩) hS5 ?_
      (try simp only [List.getElem_toArray, List.getElem_cons_succ, List.getElem_cons_zero, Act.put, List.setIfInBounds_toArray, List.set_cons_zero, List.set_cons_succ])
      refine wpAnyH_take (i := 6) (v := .int .i64 (F : Int)) rfl (by kernel_rfl) (by kernel_rfl) (by kernel_rfl) (fun _ _ _ h => h) (Or.inl ⟨by rfl, by intro w' hS'; go_simp <;> (first | omega | (rw [IntKind.wrap_i64]; omega) | (rw [IntKind.wrap_u64]; omega) | (rw [IntKind.wrap_u32]; omega) | (rw [Int.tmod_eq_emod_of_nonneg (by omega)]) | rfl)⟩) hS5 ?_
      (try simp only [List.getElem_toArray, List.getElem_cons_succ, List.getElem_cons_zero, Act.put, List.setIfInBounds_toArray, List.set_cons_zero, List.set_cons_succ])
      refine wpAnyH_take (i := 7) (v := .int .i64 (n : Int)) rfl (by kernel_rfl) (by kernel_rfl) (by kernel_rfl) (fun _ _ _ h => h) (Or.inl ⟨by rfl, by intro w' hS'; go_simp <;> (first | omega | (rw [IntKind.wrap_i64]; omega) | (rw [IntKind.wrap_u64]; omega) | (rw [IntKind.wrap_u32]; omega) | (rw [Int.tmod_eq_emod_of_nonneg (by omega)]) | rfl)⟩) hS5 ?_
      (try simp only [List.getElem_toArray, List.getElem_cons_succ, List.getElem_cons_zero, Act.put, List.setIfInBounds_toArray, List.set_cons_zero, List.set_cons_succ])
      refine wpAnyH_take (i := 8) (v := .int .i64 (F : Int)) rfl (by kernel_rfl) (by kernel_rfl) (by kernel_rfl) (fun _ _ _ h => h) (Or.inl ⟨by rfl, by intro w' hS'; go_simp <;> (first | omega | (rw [IntKind.wrap_i64]; omega) | (rw [IntKind.wrap_u64]; omega) | (rw [IntKind.wrap_u32]; omega) | (rw [Int.tmod_eq_emod_of_nonneg (by omega)]) | rfl)⟩) hS5 ?_
      (try simp only [List.getElem_toArray, List.getElem_cons_succ, List.getElem_cons_zero, Act.put, List.setIfInBounds_toArray, List.set_cons_zero, List.set_cons_succ])
      refine wpAnyH_take (i := 9) (v := .int .i64 (n : Int)) rfl (by kernel_rfl) (by kernel_rfl) (by kernel_rfl) (fun _ _ _ h => h) (Or.inl ⟨by rfl, by intro w' hS'; go_simp <;> (first | omega | (rw [IntKind.wrap_i64]; omega) | (rw [IntKind.wrap_u64]; omega) | (rw [IntKind.wrap_u32]; omega) | (rw [Int.tmod_eq_emod_of_nonneg (by omega)]) | rfl)⟩) hS5 ?_
      (try simp only [List.getElem_toArray, List.getElem_cons_succ, List.getElem_cons_zero, Act.put, List.setIfInBounds_toArray, List.set_cons_zero, List.set_cons_succ])
      refine wpAnyH_done (by kernel_rfl) ?_ _
      clear hS1 hS5 HXS HSS HLN HST HD
      by_cases hn0 : n = 0
      · have hn0I : (n : Int) = 0 := by omega
        have HZ2 := hid (HBY.out hn0)
        subst hn0
        clear HBY HPC
        go_wp2_with fail
        go_roundw
        case rel => exact ⟨k, a + 1, t, acc, _, rfl, by omega, by omega, by omega, hal, rfl, by go_num, HZ2, HD5, HST5⟩
        case measure => simp [lonIntOf]; omega
      · obtain ⟨h6, hns, hz2⟩ := HPC.out hn0
        have HZ2 := hid hz2
        have hn0I : ¬ (n : Int) = 0 := by omega
        have hn0b : ((n : Int) == 0) = false := beq_eq_false_iff_ne.2 hn0I
        have htI : (t : Int) ≤ (a : Int) := by omega
        have haI2 : (a : Int) ≤ (s.size : Int) := by omega
        have hQs : (s.extract t a).size ≤ 4000 := by rw [ByteArray.size_extract]; omega
        have HWD := hid (fun (h : w5.ownsRow w1.heap.size 89 3 v acc.length (pcC acc)) => withData_any (s.extract t a) w5 hQs (by omega) h HD5.out.below.size)
        generalize hQQ : s.extract t a = Q at HWD HZ2 hQs
        have HQQ := hid hQQ
        clear HBY HPC hz2 hQQ
        go_wp2_with fail
        rw [HQQ.out]
        refine (HWD.out HD5.out.own).mono ?_
        rintro e w6 ⟨⟨v6, rfl, ho6⟩, hb6, hk6⟩
        have HD6 : Hid (DO w1 w6 v6 (wDat acc Q)) := ⟨ho6, HD5.out.below.trans hb6⟩
        have HST6 := hid (hk6 _ _ HST5.out)
        have hwl := wDat_len acc Q
        clear ho6 hb6 hk6 HD5 HST5 HWD
        go_wp2_with (at_builtin; (refine wpList_append_own _ rfl _ _ 52 rfl w1.heap.size 89 i0 _ 3 32 Try.underlying52 hi hz0 hz1 hz2 rfl (by decide) _ _ _ rfl (HD6.out.own.alloc _) ⟨w6.heap.size, 0, none⟩ 1 1 [_, _, _] rfl rfl (cell_three_at rfl) ?c2 ?c3 ?c4 ?c5 ?_))
        case c2 => first | exact three_one _ _ _ | exact ⟨rfl, rfl⟩ | simp [Value.oneCell']
        case c3 => unfold maxLen; omega
        case c4 => omega
        case c5 => have := HD6.out.below.size; first | omega | (rw [World.size_alloc]; omega)
        intro v' w7 hown' hgrow _
        have HD7 := hid (HD6.out.put (p := ⟨(F : Int), (n : Int), ⟨#[]⟩⟩) _ hown' hgrow)
        have HST7 : Hid (w7.heap[w1.heap.size]? = some (.cells (opV o w.heap.size) 118 (0, 0))) := by
          have hl6 := (Array.getElem?_eq_some_iff.1 HST6.out).1
          exact (hgrow.block _ (by simp; omega) (row_apD (by decide) HD6.out.own HST6.out)).trans ((Below.heap_alloc _ _ _ hl6).trans HST6.out)
        clear hown' hgrow HD6 HST6
        go_wp2_with fail
        go_roundw
        case rel => exact ⟨k, a + n, a + n, _, _, rfl, by omega, by omega, by omega, by rw [List.length_append]; show _ + 1 ≤ _; omega, by go_num, by go_num, HZ2, HD7, HST7⟩
        case measure => simp [lonIntOf]; omega
    · obtain rfl : a = s.size := by omega
      have hze : Z = wDat acc (s.extract t s.size) := by rw [HZ.out, dl_end hlt]
      have htI : (t : Int) ≤ (s.size : Int) := by omega
      have hQs : (s.extract t s.size).size ≤ 4000 := by rw [ByteArray.size_extract]; omega
      have HWD := hid (fun (h : wr.ownsRow w1.heap.size 89 3 v acc.length (pcC acc)) => withData_any (s.extract t s.size) wr hQs (by omega) h HD.out.below.size)
      rw [← hze] at HWD
      clear HZ hze
      go_wp2_with fail
      refine (HWD.out HD.out.own).mono ?_
      rintro e w6 ⟨⟨v6, rfl, ho6⟩, hb6, _⟩
      have HO6 := hid (own3_base ho6 HB1.out.size)
      have HB6 := hid (bl3 HB1.out (HD.out.below.trans hb6) HB1.out.size)
      obtain ⟨ra, rc, rfl⟩ := own3_slice ho6
      clear ho6 hb6 HD HWD
      by_cases h5 : 500 < Z.length
      · have h5I : (500 : Int) < (Z.length : Int) := by omega
        obtain rfl := HAN.out h5
        go_wp2_with fail
        go_ret2
        exact do_nil HB6.out
      · have h5I : ¬ (500 : Int) < (Z.length : Int) := by omega
        obtain rfl := HAY.out h5
        go_wp2_with fail
        go_ret2
        exact ⟨⟨_, rfl, HO6.out⟩, HB6.out⟩
theorem sdo_big (o s : ByteArray) (w : World) (h : 4000 < o.size ∨ 4000 < s.size) (ho : o.size ≤ 1048576) (hs : s.size ≤ 1048576) :
    Calls Try.prog 76 #[.string o, .string s] w fun e w' => DoPost w (doD o s) e w' := by
  have e : doD o s = none := by unfold doD; rw [if_pos h]
  rw [e]
  by_cases h1 : 4000 < o.size
  · have h1I : (4000 : Int) < (o.size : Int) := by omega
    clear h e
    go_enter Try.func76, Try.ntmps76
    go_wp2_with fail
    go_ret2
    exact do_nil (Below.refl _ _)
  · have h1I : ¬ (4000 : Int) < (o.size : Int) := by omega
    have h2I : (4000 : Int) < (s.size : Int) := by omega
    clear h e
    go_enter Try.func76, Try.ntmps76
    go_wp2_with fail
    go_ret2
    exact do_nil (Below.refl _ _)
theorem do_any (o s : ByteArray) (w : World) (ho : o.size ≤ 1048576) (hs : s.size ≤ 1048576) :
    Calls Try.prog 76 #[.string o, .string s] w fun e w' => DoPost w (doD o s) e w' := by
  by_cases h : 4000 < o.size ∨ 4000 < s.size
  · exact sdo_big o s w h ho hs
  · exact do_go o s w (by omega) (by omega)
end Go.Proofs.Ytpeddaljgmkomaa

/-!   A version added: the code's. -/
namespace Go.Proofs.Ytpeddaljgmkomaa
open Go.RowKit
open Go.Maps (Keyed)
set_option linter.unusedVariables false
set_option linter.unusedSimpArgs false
set_option maxRecDepth 100000 in
set_option maxHeartbeats 1000000 in
theorem sh_any (o s : ByteArray) (w : World) (ho : o.size ≤ 4000) (hs : s.size ≤ 4000) :
    Calls Try.prog 49 #[.string o, .string s] w fun e w' => (∃ v, e = .returned (.tuple #[v, .bool (shR o s).isSome]) ∧ Own w' w.heap.size (pcsD ((shR o s).getD [])) v) ∧ Below w.heap.size w w' := by
  have HD : Hid (Calls Try.prog 76 #[.string o, .string s] w fun e w' => DoPost w (doD o s) e w') := do_any o s w (by omega) (by omega)
  have hsI : (s.size : Int) ≤ 4000 := by omega
  cases hd : doD o s with
  | none =>
    have HR : Hid (shR o s = none) := by show shR o s = none; unfold shR; rw [hd]; rfl
    rw [hd] at HD
    clear hd
    go_enter Try.func49, Try.ntmps49
    go_wp2_with fail
    refine HD.out.mono ?_
    rintro e w3 ⟨⟨v, rfl, _⟩, hb3⟩
    have HB3 := dhid hb3
    clear hb3 HD
    show _
    go_wp2_with fail
    go_ret2
    rw [HR.out]
    exact ⟨⟨_, rfl, [], .nil _ _ _ _, List.nodup_nil, fun b hb => by cases hb⟩, HB3.out⟩
  | some P =>
    rw [hd] at HD
    obtain ⟨hl, hr, _⟩ := doD_good hd
    have HDT : Hid (∀ v w', PcArg w' v P.length (pcF P) → Calls Try.prog 57 #[v] w' fun e w2 => e = .returned (.string (dtV (pcF P) P.length)) ∧ Below w'.heap.size w' w2) := fun v w' h => dt_any v P.length (pcF P) w' (pcLe_of hr) h
    have htz := dtV_size (pcLe_of hr)
    have HD2 : Hid (Calls Try.prog 76 #[.string o, .string s] w fun e w' => (∃ v, e = .returned (.tuple #[v, .bool true]) ∧ w'.ownsRow w.heap.size 89 3 v P.length (pcC P)) ∧ Below w.heap.size w w') := HD.out
    by_cases hlt : (dtV (pcF P) P.length).size < s.size
    · have HR : Hid (shR o s = some P) := by show shR o s = some P; unfold shR; rw [hd]; exact if_pos hlt
      have hltI : ¬ (s.size : Int) ≤ ((dtV (pcF P) P.length).size : Int) := by omega
      generalize dtV (pcF P) P.length = X at HDT hltI htz
      clear hd hlt hl hr HD
      go_enter Try.func49, Try.ntmps49
      go_wp2_with fail
      refine HD2.out.mono ?_
      rintro e w3 ⟨⟨v, rfl, ho3⟩, hb3⟩
      have HB3 := dhid hb3
      have HA3 := dhid (own3_arg ho3)
      have HO3 := dhid (pcs_own ho3)
      clear hb3 HD2 ho3
      go_wp2_with fail
      refine (HDT.out _ _ HA3.out).mono ?_
      rintro e w4 ⟨rfl, hb4⟩
      have HB4 := dhid (dblow HB3.out hb4 HB3.out.size)
      have HO4 := dhid (HO3.out.under hb4)
      clear hb4
      go_wp2_with fail
      go_ret2
      rw [HR.out]
      exact ⟨⟨_, rfl, HO4.out⟩, HB4.out⟩
    · have HR : Hid (shR o s = none) := by show shR o s = none; unfold shR; rw [hd]; exact if_neg hlt
      have hltI : (s.size : Int) ≤ ((dtV (pcF P) P.length).size : Int) := by omega
      generalize dtV (pcF P) P.length = X at HDT hltI htz
      clear hd hlt hl hr HD
      go_enter Try.func49, Try.ntmps49
      go_wp2_with fail
      refine HD2.out.mono ?_
      rintro e w3 ⟨⟨v, rfl, ho3⟩, hb3⟩
      have HB3 := dhid hb3
      have HA3 := dhid (own3_arg ho3)
      clear hb3 HD2 ho3
      go_wp2_with fail
      refine (HDT.out _ _ HA3.out).mono ?_
      rintro e w4 ⟨rfl, hb4⟩
      have HB4 := dhid (dblow HB3.out hb4 HB3.out.size)
      clear hb4
      go_wp2_with fail
      go_ret2
      rw [HR.out]
      exact ⟨⟨_, rfl, [], .nil _ _ _ _, List.nodup_nil, fun b hb => by cases hb⟩, HB4.out⟩
set_option maxRecDepth 100000 in
set_option maxHeartbeats 4000000 in
theorem add_any (v : Value) (L : List LkI) (bs : List Nat) (s : ByteArray) (k : Int) (w : World) (hs : s.size ≤ 1048576) (hk : (Lit.int .i64 k).wf = true) (hl : LkLe L) (h : Hd w (lksD L) v bs) :
    Calls Try.prog 23 #[v, .string s, .int .i64 k] w fun e w' => LkPost w (avR L s k) e w' := by
  obtain ⟨a, c, rfl, _⟩ := lks_at h
  have HVS : Hid (Calls Try.prog 40 #[.slice a L.length c] w fun e w2 => VsPost w (vAll L) e w2) := vs_any _ L bs w hl h
  have hsI : (s.size : Int) ≤ 1048576 := by omega
  have HLEN := hl.len
  have HH := dhid h
  have hkey := Maps.keyOf_int_mk Try.underlying2 hk
  have HKEY := dhid hkey
  obtain ⟨i0, hi0, hz0, hz1, hz2⟩ := info_parts Try.infLk
  obtain ⟨n, hn⟩ : ∃ n, n = L.length := ⟨_, rfl⟩
  rw [← hn] at HVS HLEN HH ⊢
  have HN := dhid hn
  clear h hn hkey
  cases hA : vAll L with
  | none =>
    have HR := dhid (avR_none (s := s) (k := k) hA)
    rw [hA] at HVS
    clear hA
    go_enter Try.func23, Try.ntmps23
    go_wp2_with fail
    refine HVS.out.mono ?_
    rintro e w3 ⟨hpost, hb3⟩
    have hpost2 : e = .returned (.tuple #[.map none, .bool false]) := hpost
    subst hpost2
    have HB3 := dhid hb3
    clear hb3 hpost HVS
    go_wp2_with fail
    go_ret2
    exact LkPost.no HR.out HB3.out
  | some V =>
    have HVS2 : Hid (Calls Try.prog 40 #[.slice a n c] w fun e w2 => (e = .returned (.tuple #[.map (some w.heap.size), .bool true]) ∧ MapF w2 Try.prog 2 w.heap.size V.length (vMap V)) ∧ Below w.heap.size w w2) := by
      rw [hA] at HVS; exact HVS
    have hG := lkG_of hl hA
    have hn30 := (vAll_some hA).1
    have hVF := (vAll_some hA).2.1
    have hVl := (vAll_some hA).2.2
    rw [← HN.out] at hn30
    have HCP : Hid (∀ w', Below w.heap.size w w' → Calls Try.prog 48 #[.slice a n c] w' fun e w2 => (∃ v us, e = .returned v ∧ Gl w2 w'.heap.size 54 3 isPc v n us (L.flatMap lkDs)) ∧ Below w'.heap.size w' w2) := fun w' hb => by
      have h := cpLk_gl _ L bs w' (by rw [← HN.out]; exact hn30) hG (HH.out.under hb)
      rw [← HN.out] at h
      exact h
    clear HVS HLEN
    by_cases hn29 : n < 30
    · have hnb : ((n : Int) == 30) = false := beq_eq_false_iff_ne.2 (by omega)
      by_cases hs4 : s.size ≤ 4000
      · have hs4I : ¬ (4000 : Int) < (s.size : Int) := by omega
        have HCL : Hid (∀ w, Calls Try.prog 50 #[.string s] w fun e w' => e = .returned (.string s) ∧ Below w.heap.size w w') := fun w => clone_any s w (by omega)
        cases hf : vMap V (.int .i64 k) with
        | none =>
          by_cases hk1 : k = -1
          · subst hk1
            have HR : Hid (avR L s (-1) = some (L ++ [⟨-1, s, []⟩])) := by
              show avR L s (-1) = _
              rw [avR_yes hA ⟨by rw [← HN.out]; exact hn29, hs4, by omega, by omega⟩, avL_whole (by omega)]
            have HF := dhid hf
            clear hA hG hVF hVl hf
            go_enter Try.func23, Try.ntmps23
            go_wp2_with fail
            refine HVS2.out.mono ?_
            rintro e w3 ⟨⟨rfl, hm⟩, hb3⟩
            have hrun := (hm.look_no keyI Try.underlying56 (zeroVer w3) HKEY.out HF.out).1
            have HB3 := dhid hb3
            have HB4 := dhid (hb3.alloc hb3.size (.cells #[.string ⟨#[]⟩, .int .i64 0] 62))
            clear hb3 HVS2 hm
            go_wp2_with fail
            refine (HCP.out _ HB4.out).mono ?_
            rintro e w5 ⟨⟨v5, us, rfl, hgl⟩, hb5⟩
            have HGL := dhid hgl
            have HB5 := dhid (dblow HB4.out hb5 HB4.out.size)
            have HSZ : Hid (w.heap.size ≤ (w3.alloc (.cells #[.string ⟨#[]⟩, .int .i64 0] 62)).heap.size ∧ (w3.alloc (.cells #[.string ⟨#[]⟩, .int .i64 0] 62)).heap.size ≤ w5.heap.size) := ⟨HB4.out.size, hb5.size⟩
            clear hgl hb5 hrun HCP
            go_wp2_with fail
            refine (HCL.out _).mono ?_
            rintro e w6 ⟨rfl, hb6⟩
            have HW6 := dhid hb6
            have HB6 := dhid (dblow HB5.out hb6 HB5.out.size)
            clear hb6 HCL
            go_wp2_with (at_builtin; (refine wpList_append_lk rfl _ _ 25 rfl _ i0 _ Try.underlying25 hi0 hz0 hz1 hz2 rfl _ n us (L.flatMap lkDs) rfl HGL.out (by omega) HSZ.out.2 HW6.out (-1) s [] _ _ _ ⟨[], .nil _ _ _ _, List.nodup_nil, fun b hb => by cases hb⟩ rfl ?_; intro v' us' w7 hgl7 hbl7; refine hold_goalF ?_))
            have HO7 := dhid ((gl_lks hgl7 HN.out).base HSZ.out.1)
            have HB7 := dhid (hbl7 _ _ HB6.out HSZ.out.1)
            clear hgl7 hbl7
            unfold Hid
            go_wp2_with fail
            go_ret2
            exact LkPost.yes HR.out HO7.out HB7.out
          · have hkb : (k != -1) = true := by simp [hk1]
            have hVk : ¬ (-1 ≤ k ∧ k ≤ (L.length : Int) - 1) := fun c => by
              have h0 : 0 ≤ k := by omega
              unfold vMap at hf
              simp only [if_pos h0] at hf
              have hlt : k.toNat < V.length := by omega
              rw [List.getElem?_eq_getElem hlt] at hf
              cases hf
            have HR := dhid (avR_no (L := L) (s := s) (k := k) fun c => hVk c.2.2)
            have HF := dhid hf
            clear hA hG hVF hVl hf hVk hk1 HCP HCL
            go_enter Try.func23, Try.ntmps23
            go_wp2_with fail
            refine HVS2.out.mono ?_
            rintro e w3 ⟨⟨rfl, hm⟩, hb3⟩
            have hrun := (hm.look_no keyI Try.underlying56 (zeroVer w3) HKEY.out HF.out).1
            have HB4 := dhid (hb3.alloc hb3.size (.cells #[.string ⟨#[]⟩, .int .i64 0] 62))
            clear hb3 HVS2 hm
            go_wp2_with fail
            go_ret2
            exact LkPost.no HR.out HB4.out
        | some ov =>
          have hf2 := hf
          obtain ⟨h0, o, ho, rfl⟩ : 0 ≤ k ∧ ∃ o, V[k.toNat]? = some o ∧ ov = verV o := by
            unfold vMap at hf
            by_cases h0 : 0 ≤ k
            · simp only [if_pos h0] at hf
              cases hx : V[k.toNat]? with
              | none => rw [hx] at hf; cases hf
              | some o => rw [hx] at hf; injection hf with hf; exact ⟨h0, o, rfl, hf.symm⟩
            · simp only [if_neg h0] at hf; cases hf
          have hkl := (List.getElem?_eq_some_iff.1 ho).1
          have hcond : L.length < 30 ∧ s.size ≤ 4000 ∧ -1 ≤ k ∧ k ≤ (L.length : Int) - 1 := ⟨by rw [← HN.out]; exact hn29, hs4, by omega, by omega⟩
          have hob := vF_bd hVF o (List.mem_of_getElem? ho)
          have HF := dhid hf2
          have HSH : Hid (∀ w, Calls Try.prog 49 #[.string o.t, .string s] w fun e w' => (∃ v, e = .returned (.tuple #[v, .bool (shR o.t s).isSome]) ∧ Own w' w.heap.size (pcsD ((shR o.t s).getD [])) v) ∧ Below w.heap.size w w') := fun w => sh_any o.t s w hob.1 hs4
          by_cases hd6 : o.d < 6
          · cases hr : shR o.t s with
            | some P =>
              have HR : Hid (avR L s k = some (L ++ [⟨k, ⟨#[]⟩, P⟩])) := by
                show avR L s k = _
                rw [avR_yes hA hcond, avL_delta h0 ho hd6 hr]
              rw [hr] at HSH
              have HSH2 : Hid (∀ w, Calls Try.prog 49 #[.string o.t, .string s] w fun e w' => (∃ v, e = .returned (.tuple #[v, .bool true]) ∧ Own w' w.heap.size (pcsD P) v) ∧ Below w.heap.size w w') := HSH.out
              obtain ⟨ot, od⟩ := o
              unfold verV at HF
              simp only at HF hd6 HSH2
              clear hA hG hVF hVl hf hf2 ho hr hkl hcond hob HSH h0 HCL
              go_enter Try.func23, Try.ntmps23
              go_wp2_with fail
              refine HVS2.out.mono ?_
              rintro e w3 ⟨⟨rfl, hm⟩, hb3⟩
              have hrun := (hm.look_yes keyI Try.underlying56 (zeroVer w3) HKEY.out HF.out).1
              have HB3 := dhid hb3
              have HB4 := dhid (hb3.alloc hb3.size (.cells #[.string ot, .int .i64 od] 62))
              clear hb3 HVS2 hm
              go_wp2_with fail
              refine (HCP.out _ HB4.out).mono ?_
              rintro e w5 ⟨⟨v5, us, rfl, hgl⟩, hb5⟩
              have HGL := dhid hgl
              have HB5 := dhid (dblow HB4.out hb5 HB4.out.size)
              have HSZ : Hid (w.heap.size ≤ (w3.alloc (.cells #[.string ot, .int .i64 od] 62)).heap.size ∧ (w3.alloc (.cells #[.string ot, .int .i64 od] 62)).heap.size ≤ w5.heap.size) := ⟨HB4.out.size, hb5.size⟩
              have r5 : w5.heap[w3.heap.size]? = some (.cells #[.string ot, .int .i64 od] 62 (0, 0)) := (hb5.block _ (by simp)).trans (heap_alloc_new w3 _)
              have y0 : w5.cell? ⟨w3.heap.size, 0, none⟩ = some (.string ot) := cell_of_row _ _ 0 _ _ _ r5
              have y1 : w5.cell? ⟨w3.heap.size, 1, none⟩ = some (.int .i64 od) := cell_of_row _ _ 1 _ _ _ r5
              clear hgl hb5 hrun HCP r5
              go_wp2_with fail
              refine (HSH2.out _).mono ?_
              rintro e w6 ⟨⟨pw, rfl, hpo⟩, hb6⟩
              have HW6 := dhid hb6
              have HB6 := dhid (dblow HB5.out hb6 HB5.out.size)
              have HPO := dhid hpo
              obtain ⟨pa, pn, pc, rfl, _⟩ := hpo.rd.slice
              clear hb6 hpo HSH2 y0 y1
              go_wp2_with (at_builtin; (refine wpList_append_lk rfl _ _ 25 rfl _ i0 _ Try.underlying25 hi0 hz0 hz1 hz2 rfl _ n us (L.flatMap lkDs) rfl HGL.out (by omega) HSZ.out.2 HW6.out k ⟨#[]⟩ P _ _ _ HPO.out rfl ?_; intro v' us' w7 hgl7 hbl7; refine hold_goalF ?_))
              have HO7 := dhid ((gl_lks hgl7 HN.out).base HSZ.out.1)
              have HB7 := dhid (hbl7 _ _ HB6.out HSZ.out.1)
              clear hgl7 hbl7
              unfold Hid
              go_wp2_with fail
              go_ret2
              exact LkPost.yes HR.out HO7.out HB7.out
            | none =>
              have HR : Hid (avR L s k = some (L ++ [⟨-1, s, []⟩])) := by
                show avR L s k = _
                rw [avR_yes hA hcond, avL_long h0 ho hr]
              rw [hr] at HSH
              have HSH2 : Hid (∀ w, Calls Try.prog 49 #[.string o.t, .string s] w fun e w' => (∃ v, e = .returned (.tuple #[v, .bool false]) ∧ Own w' w.heap.size (pcsD []) v) ∧ Below w.heap.size w w') := HSH.out
              obtain ⟨ot, od⟩ := o
              unfold verV at HF
              simp only at HF hd6 HSH2
              clear hA hG hVF hVl hf hf2 ho hr hkl hcond hob HSH h0
              go_enter Try.func23, Try.ntmps23
              go_wp2_with fail
              refine HVS2.out.mono ?_
              rintro e w3 ⟨⟨rfl, hm⟩, hb3⟩
              have hrun := (hm.look_yes keyI Try.underlying56 (zeroVer w3) HKEY.out HF.out).1
              have HB3 := dhid hb3
              have HB4 := dhid (hb3.alloc hb3.size (.cells #[.string ot, .int .i64 od] 62))
              clear hb3 HVS2 hm
              go_wp2_with fail
              refine (HCP.out _ HB4.out).mono ?_
              rintro e w5 ⟨⟨v5, us, rfl, hgl⟩, hb5⟩
              have HGL := dhid hgl
              have HB5 := dhid (dblow HB4.out hb5 HB4.out.size)
              have HSZ : Hid (w.heap.size ≤ (w3.alloc (.cells #[.string ot, .int .i64 od] 62)).heap.size ∧ (w3.alloc (.cells #[.string ot, .int .i64 od] 62)).heap.size ≤ w5.heap.size) := ⟨HB4.out.size, hb5.size⟩
              have r5 : w5.heap[w3.heap.size]? = some (.cells #[.string ot, .int .i64 od] 62 (0, 0)) := (hb5.block _ (by simp)).trans (heap_alloc_new w3 _)
              have y0 : w5.cell? ⟨w3.heap.size, 0, none⟩ = some (.string ot) := cell_of_row _ _ 0 _ _ _ r5
              have y1 : w5.cell? ⟨w3.heap.size, 1, none⟩ = some (.int .i64 od) := cell_of_row _ _ 1 _ _ _ r5
              clear hgl hb5 hrun HCP r5
              go_wp2_with fail
              refine (HSH2.out _).mono ?_
              rintro e w6 ⟨⟨pw, rfl, hpo⟩, hb6⟩
              have HW6 := dhid hb6
              have HB6 := dhid (dblow HB5.out hb6 HB5.out.size)
              clear hb6 hpo HSH2 y0 y1
              go_wp2_with fail
              refine (HCL.out _).mono ?_
              rintro e w8 ⟨rfl, hb8⟩
              have HW8 := dhid (dblow HW6.out hb8 HW6.out.size)
              have HB8 := dhid (dblow HB6.out hb8 HB6.out.size)
              clear hb8 HCL HB6 HW6
              go_wp2_with (at_builtin; (refine wpList_append_lk rfl _ _ 25 rfl _ i0 _ Try.underlying25 hi0 hz0 hz1 hz2 rfl _ n us (L.flatMap lkDs) rfl HGL.out (by omega) HSZ.out.2 HW8.out (-1) s [] _ _ _ ⟨[], .nil _ _ _ _, List.nodup_nil, fun b hb => by cases hb⟩ rfl ?_; intro v' us' w7 hgl7 hbl7; refine hold_goalF ?_))
              have HO7 := dhid ((gl_lks hgl7 HN.out).base HSZ.out.1)
              have HB7 := dhid (hbl7 _ _ HB8.out HSZ.out.1)
              clear hgl7 hbl7
              unfold Hid
              go_wp2_with fail
              go_ret2
              exact LkPost.yes HR.out HO7.out HB7.out
          · have HR : Hid (avR L s k = some (L ++ [⟨-1, s, []⟩])) := by
              show avR L s k = _
              rw [avR_yes hA hcond, avL_deep h0 ho hd6]
            obtain ⟨ot, od⟩ := o
            unfold verV at HF
            simp only at HF hd6
            clear hA hG hVF hVl hf hf2 ho hkl hcond hob HSH h0
            go_enter Try.func23, Try.ntmps23
            go_wp2_with fail
            refine HVS2.out.mono ?_
            rintro e w3 ⟨⟨rfl, hm⟩, hb3⟩
            have hrun := (hm.look_yes keyI Try.underlying56 (zeroVer w3) HKEY.out HF.out).1
            have HB3 := dhid hb3
            have HB4 := dhid (hb3.alloc hb3.size (.cells #[.string ot, .int .i64 od] 62))
            clear hb3 HVS2 hm
            go_wp2_with fail
            refine (HCP.out _ HB4.out).mono ?_
            rintro e w5 ⟨⟨v5, us, rfl, hgl⟩, hb5⟩
            have HGL := dhid hgl
            have HB5 := dhid (dblow HB4.out hb5 HB4.out.size)
            have HSZ : Hid (w.heap.size ≤ (w3.alloc (.cells #[.string ot, .int .i64 od] 62)).heap.size ∧ (w3.alloc (.cells #[.string ot, .int .i64 od] 62)).heap.size ≤ w5.heap.size) := ⟨HB4.out.size, hb5.size⟩
            have r5 : w5.heap[w3.heap.size]? = some (.cells #[.string ot, .int .i64 od] 62 (0, 0)) := (hb5.block _ (by simp)).trans (heap_alloc_new w3 _)
            have y1 : w5.cell? ⟨w3.heap.size, 1, none⟩ = some (.int .i64 od) := cell_of_row _ _ 1 _ _ _ r5
            clear hgl hb5 hrun HCP r5
            go_wp2_with fail
            refine (HCL.out _).mono ?_
            rintro e w6 ⟨rfl, hb6⟩
            have HW6 := dhid hb6
            have HB6 := dhid (dblow HB5.out hb6 HB5.out.size)
            clear hb6 HCL y1
            go_wp2_with (at_builtin; (refine wpList_append_lk rfl _ _ 25 rfl _ i0 _ Try.underlying25 hi0 hz0 hz1 hz2 rfl _ n us (L.flatMap lkDs) rfl HGL.out (by omega) HSZ.out.2 HW6.out (-1) s [] _ _ _ ⟨[], .nil _ _ _ _, List.nodup_nil, fun b hb => by cases hb⟩ rfl ?_; intro v' us' w7 hgl7 hbl7; refine hold_goalF ?_))
            have HO7 := dhid ((gl_lks hgl7 HN.out).base HSZ.out.1)
            have HB7 := dhid (hbl7 _ _ HB6.out HSZ.out.1)
            clear hgl7 hbl7
            unfold Hid
            go_wp2_with fail
            go_ret2
            exact LkPost.yes HR.out HO7.out HB7.out
      · have hs4I : (4000 : Int) < (s.size : Int) := by omega
        have HR := dhid (avR_no (L := L) (s := s) (k := k) fun c => hs4 c.2.1)
        clear hA hG hVF hVl HCP hs4
        go_enter Try.func23, Try.ntmps23
        go_wp2_with fail
        refine HVS2.out.mono ?_
        rintro e w3 ⟨⟨rfl, hm⟩, hb3⟩
        have HB3 := dhid hb3
        clear hb3 HVS2 hm
        go_wp2_with fail
        go_ret2
        exact LkPost.no HR.out HB3.out
    · have hnb : n = 30 := by omega
      have HR := dhid (avR_no (L := L) (s := s) (k := k) fun c => hn29 (by rw [HN.out]; exact c.1))
      subst hnb
      clear hA hG hVF hVl HCP hn29
      go_enter Try.func23, Try.ntmps23
      go_wp2_with fail
      refine HVS2.out.mono ?_
      rintro e w3 ⟨⟨rfl, hm⟩, hb3⟩
      have HB3 := dhid hb3
      clear hb3 HVS2 hm
      go_wp2_with fail
      go_ret2
      exact LkPost.no HR.out HB3.out
end Go.Proofs.Ytpeddaljgmkomaa

/-!   Links copied: the specification's. -/
namespace Go.Proofs.Ytpeddaljgmkomaa
open Go.RowKit
set_option linter.unusedVariables false
set_option linter.unusedSimpArgs false
theorem run_append_none_c {P : Program} {w : World} (base : Nat) (t ty e : TypeId) (i : TypeInfo) (size : Nat) (ht : P.underlying t = some (.slice e)) (hi : P.info? e = some i)
    (v : Value) (n c : Nat) (xs : List Value) (hown : w.ownsRow base e size v n xs) :
    (Builtin.append_ #[t, t] ty #[v, .slice none 0 c]).run P w = .ok v w := by
  rcases hown.2 with ⟨rfl, rfl⟩ | ⟨g, cap, cur, rfl, _, _, hnc, _⟩
  · simp [Builtin.append_, run_underlying ht, sizeOf, typeInfo, hi, Builtin.lenOf, Builtin.firstCells]
  · simp [Builtin.append_, run_underlying ht, sizeOf, typeInfo, hi, Builtin.lenOf, Builtin.firstCells, hnc, storeCells]
theorem add_zero_at (g j : Nat) : (⟨g, 0, none⟩ : Addr).add j = ⟨g, j, none⟩ := by
  unfold Addr.add
  by_cases h0 : j = 0
  · subst h0; simp
  · simp [h0]
theorem pcC_cell {M : List PcI} {j : Nat} {u : Value} (h : (pcC M)[j]? = some u) : ∃ i, i < M.length ∧ ((j = 3 * i ∧ u = .int .i64 (pcF M i).f) ∨ (j = 3 * i + 1 ∧ u = .int .i64 (pcF M i).l) ∨ (j = 3 * i + 2 ∧ u = .string (pcF M i).d)) := by
  have hj := (List.getElem?_eq_some_iff.1 h).1
  rw [pcC_len] at hj
  refine ⟨j / 3, by omega, ?_⟩
  obtain ⟨c0, c1, c2⟩ := pcC_at M (j / 3) (by omega)
  rcases (show j = 3 * (j / 3) ∨ j = 3 * (j / 3) + 1 ∨ j = 3 * (j / 3) + 2 by omega) with e | e | e
  · rw [e, c0] at h; exact Or.inl ⟨e, (Option.some.inj h).symm⟩
  · rw [e, c1] at h; exact Or.inr (Or.inl ⟨e, (Option.some.inj h).symm⟩)
  · rw [e, c2] at h; exact Or.inr (Or.inr ⟨e, (Option.some.inj h).symm⟩)
theorem pcArg_cells {w : World} {g : Nat} {M : List PcI} (h : PcRow w g M.length (pcF M)) (j : Nat) (u : Value) (hu : (pcC M)[j]? = some u) : w.cell? ((⟨g, 0, none⟩ : Addr).add j) = some u := by
  rw [add_zero_at]
  obtain ⟨i, hi, ⟨e, rfl⟩ | ⟨e, rfl⟩ | ⟨e, rfl⟩⟩ := pcC_cell hu
  · rw [e]; exact h.c0 i hi
  · rw [e]; exact h.c1 i hi
  · rw [e]; exact h.c2 i hi
theorem wp_append_pcA {P : Program} {w : World} {o : Oper} {a : Act} {K : Act → World → Prop} {Q : Exit → Act → World → Prop} (s x : Operand) (t : TypeId)
    (ho : o.op = .call { callee := .builtin .append, args := #[s, x], argTypes := #[t, t] })
    (base : Nat) (i : TypeInfo) (z : Value) (bytes : Nat) (ht : P.underlying t = some (.slice 89)) (hi : P.info? 89 = some i) (hz : i.zero = some z)
    (hsize : i.size = 3) (hby : i.bytes = bytes) (hzs : z.cells.size = 3)
    (v vx : Value) (L M : List PcI) (hs : a.eval s = v) (hown : w.ownsRow base 89 3 v L.length (pcC L)) (hx : a.eval x = vx) (hsrc : PcArg w vx M.length (pcF M))
    (h63 : L.length + M.length ≤ maxLen) (hbytes : (L.length + M.length) * bytes ≤ 140737488355328) (hbase : base ≤ w.heap.size)
    (h : ∀ v' w', w'.ownsRow base 89 3 v' (L ++ M).length (pcC (L ++ M)) → w.grownBy w' v.ownBlock → K (a.put o.dst v') w') : o.wp P a w K Q := by
  obtain ⟨b, c, rfl, hb⟩ := hsrc
  by_cases h0 : 0 < M.length
  · obtain ⟨g, rfl, hg⟩ := hb h0
    exact wp_append_own w s x t ho base 89 i z 3 bytes ht hi hz hsize hby hzs (by decide) v L.length (pcC L) hs hown ⟨g, 0, none⟩ M.length c (pcC M) hx ((pcC_len M).trans (Nat.mul_comm _ _)) (pcArg_cells hg) (pcC_one M) h63 hbytes hbase
      (fun v' w' h1 h2 _ => h v' w' (by rw [← pcC_app, List.length_append]; exact h1) h2)
  · have e0 : M = [] := List.length_eq_zero_iff.1 (by omega)
    subst e0
    cases b with
    | none =>
      have hrun := run_append_none_c (P := P) (w := w) base t o.type 89 i 3 ht hi v L.length c (pcC L) hown
      have h2 := h v w (by rw [List.append_nil]; exact hown) (World.grownBy.refl _ _)
      unfold Oper.wp
      have hx' : a.eval x = .slice none 0 c := hx
      simp [execOp, ho, resolve, invoke, builtin, hs, hx', hrun, Result.andThen]
      exact h2
    | some ad =>
      exact wp_append_own w s x t ho base 89 i z 3 bytes ht hi hz hsize hby hzs (by decide) v L.length (pcC L) hs hown ad 0 c [] hx rfl (fun j u hj => by simp at hj) (fun u hu => by cases hu) h63 hbytes hbase
        (fun v' w' h1 h2 _ => h v' w' (by rw [List.append_nil]; rw [List.append_nil] at h1; exact h1) h2)
theorem wpList_append_pcA {P : Program} {w : World} {ops : Array Oper} {rest : List Oper} {o : Oper} {a : Act} {Q : Exit → Act → World → Prop} (hgd : o.guard = none) (s x : Operand) (t : TypeId)
    (ho : o.op = .call { callee := .builtin .append, args := #[s, x], argTypes := #[t, t] })
    (base : Nat) (i : TypeInfo) (z : Value) (bytes : Nat) (ht : P.underlying t = some (.slice 89)) (hi : P.info? 89 = some i) (hz : i.zero = some z)
    (hsize : i.size = 3) (hby : i.bytes = bytes) (hzs : z.cells.size = 3)
    (v vx : Value) (L M : List PcI) (hs : a.eval s = v) (hown : w.ownsRow base 89 3 v L.length (pcC L)) (hx : a.eval x = vx) (hsrc : PcArg w vx M.length (pcF M))
    (h63 : L.length + M.length ≤ maxLen) (hbytes : (L.length + M.length) * bytes ≤ 140737488355328) (hbase : base ≤ w.heap.size)
    (h : ∀ v' w', w'.ownsRow base 89 3 v' (L ++ M).length (pcC (L ++ M)) → w.grownBy w' v.ownBlock → wpList P ops Q rest (a.put o.dst v') w') : wpList P ops Q (o :: rest) a w :=
  wpList_plain hgd fun _ hK => wp_append_pcA s x t ho base i z bytes ht hi hz hsize hby hzs v vx L M hs hown hx hsrc h63 hbytes hbase fun v' w' h1 h2 => hK _ _ (h v' w' h1 h2)
set_option maxRecDepth 100000 in
set_option maxHeartbeats 1000000 in
theorem scpLk_some (g c n : Nat) (L : List LkI) (hLn : n = L.length) (w : World) (hn : n ≤ 30) (hG : ∀ x ∈ L, LkG x) (hg : LkCells w g L) :
    Calls Try.prog 45 #[.slice (some ⟨g, 0, none⟩) n c] w fun e w' => (∃ v us, e = .returned v ∧ Gl w' w.heap.size 54 3 isPc v n us (L.flatMap lkDs)) ∧ Below w.heap.size w w' := by
  have hnI : (n : Int) ≤ 30 := by omega
  obtain ⟨i0, hi0, hz0, hz1, hz2⟩ := info_parts Try.infLk
  obtain ⟨iP, hiP, hzP0, hzP1, hzP2⟩ := info_parts Try.infP
  have HX : Hid (n = L.length ∧ (∀ x ∈ L, LkG x) ∧ LkCells w g L) := ⟨hLn, hG, hg⟩
  have HST : Hid (Gl (w.alloc (.cells #[] 54)) w.heap.size 54 3 isPc (.slice (some ⟨w.heap.size, 0, none⟩) 0 0) 0 [] [] ∧ Below w.heap.size w (w.alloc (.cells #[] 54))) :=
    ⟨⟨World.ownsRow_made w #[] 0 (Nat.le_refl _) (by unfold maxLen; omega) rfl, Nst.nil _ _, fun d hd => (by cases hd), by unfold isPc; decide⟩, (Below.refl _ _).alloc (Nat.le_refl _) _⟩
  clear hLn hG hg
  go_enter Try.func45, Try.ntmps45
  go_wp2_with fail
  go_loopw [3, 4] (fun v x wr => ∃ (i : Nat) (us : List Value), i ≤ n ∧ x = .int .i64 (i : Int) ∧ Hid (Gl wr w.heap.size 54 3 isPc v i us ((L.take i).flatMap lkDs) ∧ Below w.heap.size w wr)) (fun _ x _ => n - (intN x).toNat)
  case atStart => exact ⟨0, [], by omega, rfl, HST⟩
  case round =>
    clear HST
    obtain ⟨i, us, hi, rfl, HO⟩ := hrel
    by_cases hlt : i < n
    · have hltI : (i : Int) < (n : Int) := by omega
      have hx := List.getElem?_eq_getElem (l := L) (i := i) (by have := HX.out.1; omega)
      have hgx := HX.out.2.1 _ (List.mem_of_getElem? hx)
      obtain ⟨pv, bs, x0, x1, x2, hd⟩ := HX.out.2.2.2 i _ hx
      have hgl := HX.out.2.2.1
      generalize L[i]'_ = x at hx hgx x0 x1 x2 hd
      have HSTP : Hid ((L.take (i + 1)).flatMap lkDs = (L.take i).flatMap lkDs ++ lkDs x) := fm_take lkDs hx
      obtain ⟨q, hq⟩ : ∃ q, q = 3 * i := ⟨_, rfl⟩
      have hiq : i * 3 = q := by omega
      rw [← hq] at x0 x1 x2
      rw [← HO.out.2.cell (p := ⟨g, q, none⟩) hgl] at x0
      rw [← HO.out.2.cell (p := ⟨g, q + 1, none⟩) hgl] at x1
      rw [← HO.out.2.cell (p := ⟨g, q + 2, none⟩) hgl] at x2
      obtain ⟨b, d, p⟩ := x
      simp only at x0 x1 x2 hd
      have hpa0 := pcs_arg hd
      have HPA : Hid (∀ w', Below w.heap.size w w' → PcArg w' pv p.length (pcF p)) := fun w' hb => hpa0.below hb
      obtain ⟨a1, c1, rfl, _⟩ := hpa0
      have hpl := hgx.len
      simp only at hpl
      obtain ⟨va0, vc0, hva⟩ : ∃ a0 c0, u3 = .slice a0 i c0 := by
        have h := HO.out.1
        obtain ⟨_, ⟨h1, h2⟩ | ⟨g1, cap, cur, h1, _⟩⟩ := h.row
        · exact ⟨_, _, by rw [h1, h2]⟩
        · exact ⟨_, _, h1⟩
      subst hva
      obtain ⟨np, hnp⟩ : ∃ np, np = p.length := ⟨_, rfl⟩
      rw [← hnp] at x2 HPA hpl
      have HNP := dhid hnp
      have HWX : Hid (Below wr.heap.size wr ((wr.alloc (.cells #[.int .i64 b, .string d, .slice a1 np c1] 54)).alloc (.cells #[] 89))) := allocs_low [_, _] wr
      have HRX : Hid (((wr.alloc (.cells #[.int .i64 b, .string d, .slice a1 np c1] 54)).alloc (.cells #[] 89)).heap[wr.heap.size]? = some (.cells #[.int .i64 b, .string d, .slice a1 np c1] 54 (0, 0))) := by
        have h := allocs_at [.cells #[.int .i64 b, .string d, .slice a1 np c1] 54, .cells #[] 89] wr 0 (by simp)
        exact h
      have HOP : Hid (((wr.alloc (.cells #[.int .i64 b, .string d, .slice a1 np c1] 54)).alloc (.cells #[] 89)).ownsRow (wr.heap.size + 1) 89 3 (.slice (some ⟨wr.heap.size + 1, 0, none⟩) 0 0) ([] : List PcI).length (pcC [])) := by
        have h := World.ownsRow_made (base := wr.heap.size + 1) (e := 89) (size := 3) (wr.alloc (.cells #[.int .i64 b, .string d, .slice a1 np c1] 54)) #[] 0 (by simp) (by unfold maxLen; omega) rfl
        have e1 : (wr.alloc (.cells #[.int .i64 b, .string d, .slice a1 np c1] 54)).heap.size = wr.heap.size + 1 := by simp
        rw [e1] at h
        exact h
      have HSRC : Hid (PcArg ((wr.alloc (.cells #[.int .i64 b, .string d, .slice a1 np c1] 54)).alloc (.cells #[] 89)) (.slice a1 np c1) p.length (pcF p)) := by
        have h := HPA.out _ (dblow HO.out.2 HWX.out HO.out.2.size)
        rw [HNP.out] at h ⊢
        exact h
      clear hx hgx hd hq hgl hnp
      go_wp2_with (at_builtin; refine wpList_append_pcA rfl _ _ 52 rfl (wr.heap.size + 1) iP _ 32 Try.underlying52 hiP hzP0 hzP1 hzP2 rfl _ _ [] p rfl HOP.out rfl HSRC.out (by show 0 + p.length ≤ _; rw [← HNP.out]; unfold maxLen; omega) (by show (0 + p.length) * 32 ≤ _; rw [← HNP.out]; omega) (by simp) ?_; intro v' w4 ho4 hg4; refine hold_goalF ?_)
      have ho4' : w4.ownsRow (wr.heap.size + 1) 89 3 v' p.length (pcC p) := ho4
      obtain ⟨a2, c2, rfl⟩ := own3_slice ho4'
      have hown4 := pcs_own ho4'
      have r4 : w4.heap[wr.heap.size]? = some (.cells #[.int .i64 b, .string d, .slice a1 np c1] 54 (0, 0)) := (hg4.block wr.heap.size (by simp; omega) (by show some wr.heap.size ≠ some (wr.heap.size + 1); intro c; have := Option.some.inj c; omega)).trans HRX.out
      have HW4 : Hid (Below wr.heap.size wr w4) := HWX.out.grown hg4 (by simp; omega) (fun k hk => by have e : wr.heap.size + 1 = k := Option.some.inj hk; omega)
      have y0 : w4.cell? ⟨wr.heap.size, 0, none⟩ = some (.int .i64 b) := cell_of_row _ _ 0 _ _ _ r4
      have y1 : w4.cell? ⟨wr.heap.size, 1, none⟩ = some (.string d) := cell_of_row _ _ 1 _ _ _ r4
      have y2 : w4.cell? ⟨wr.heap.size, 2, none⟩ = some (.slice a1 np c1) := cell_of_row _ _ 2 _ _ _ r4
      have z2 := frozen_of_row w4 _ 2 _ _ r4
      have hl4 : wr.heap.size < w4.heap.size := (Array.getElem?_eq_some_iff.1 r4).1
      obtain ⟨n2, hn2⟩ : ∃ n2, n2 = p.length := ⟨_, rfl⟩
      rw [← hn2] at hown4 ⊢
      have HW5 : Hid (Below wr.heap.size wr (w4.setCell ⟨wr.heap.size, 2, none⟩ (.slice a2 n2 c2))) := HW4.out.setCell (Nat.le_refl _) _
      have HN5 : Hid (Nst (w4.setCell ⟨wr.heap.size, 2, none⟩ (.slice a2 n2 c2)) wr.heap.size [.int .i64 b, .string d, .slice a2 n2 c2] (lkDs ⟨b, d, p⟩)) :=
        lk_new ((hown4.keep fun k hk _ => heap_setCell_other _ _ _ _ (by show k ≠ wr.heap.size; omega)).base (by omega))
      have HO5 : Hid (Gl (w4.setCell ⟨wr.heap.size, 2, none⟩ (.slice a2 n2 c2)) w.heap.size 54 3 isPc (.slice va0 i vc0) i us ((L.take i).flatMap lkDs)) := HO.out.1.call HW5.out
      have HB5 : Hid (Below w.heap.size w (w4.setCell ⟨wr.heap.size, 2, none⟩ (.slice a2 n2 c2))) := dblow HO.out.2 HW5.out HO.out.2.size
      have hs5 : (w4.setCell ⟨wr.heap.size, 2, none⟩ (.slice a2 n2 c2)).heap.size = w4.heap.size := by simp
      have hsz4 : w.heap.size ≤ w4.heap.size := by have := HB5.out.size; rw [hs5] at this; exact this
      clear ho4 ho4' hown4 r4 hg4 HOP HSRC HRX HWX x0 x1 x2 hs5 hn2 HPA
      unfold Hid
      go_wp2_with (at_builtin; (refine wpList_append_own _ rfl _ _ 25 rfl w.heap.size 54 i0 _ 3 48 Try.underlying25 hi0 hz0 hz1 hz2 rfl (by decide) _ i us rfl (HO5.out.row.alloc _) ⟨w4.heap.size, 0, none⟩ 1 1 [_, _, _] rfl rfl (cell_three_at (by simp)) ?c2 ?c3 ?c4 ?c5 ?_))
      case c2 => exact three_lk _ _ _ _ _
      case c3 => unfold maxLen; omega
      case c4 => omega
      case c5 => simp; omega
      intro v7 w7 ho7 hg7 _
      have HA6 : Hid (Below wr.heap.size wr ((w4.setCell ⟨wr.heap.size, 2, none⟩ (.slice a2 n2 c2)).alloc (.cells #[.int .i64 b, .string d, .slice a2 n2 c2] 54))) := HW5.out.alloc HW5.out.size _
      have HNEW : Hid (Gl w7 w.heap.size 54 3 isPc v7 (i + 1) (us ++ [.int .i64 b, .string d, .slice a2 n2 c2]) ((L.take (i + 1)).flatMap lkDs) ∧ Below w.heap.size w w7) := by
        refine ⟨?_, (HB5.out.alloc HB5.out.size _).grown hg7 (by simp; omega) (fun k hk => (HO5.out.row.lt k hk).1)⟩
        rw [HSTP.out]
        exact HO.out.1.grow HA6.out HO.out.2.size (HN5.out.under ((Below.refl _ _).alloc (Nat.le_refl _) _)) (lkDs_ty _) ho7 hg7
      clear ho7 hg7 HO5 HB5 HW5 HN5 HA6 HW4 HO HSTP
      go_wp2_with fail
      go_roundw
      case rel => exact ⟨i + 1, _, by omega, by go_num, HNEW⟩
      case measure => simp [intN]; omega
    · obtain rfl : i = n := by omega
      have hT : L.take i = L := List.take_of_length_le (by have := HX.out.1; omega)
      have HOO := HO.out
      rw [hT] at HOO
      have HO9 := dhid HOO
      clear hT HOO HO
      go_wp2_with fail
      go_ret
      exact ⟨⟨_, _, rfl, HO9.out.1⟩, HO9.out.2⟩
set_option maxRecDepth 100000 in
theorem scpLk_zero (a : Option Addr) (c : Nat) (w : World) :
    Calls Try.prog 45 #[.slice a 0 c] w fun e w' => e = .returned (.slice (some ⟨w.heap.size, 0, none⟩) 0 0) ∧ w' = w.alloc (.cells #[] 54) := by
  go_enter Try.func45, Try.ntmps45
  go_wp2_with fail
  refine wp_loop_rounds 1 ?_
  rw [rounds_succ]
  go_wp2_with fail
  go_ret
  exact ⟨rfl, rfl⟩
theorem scpLk_gl (v : Value) (L : List LkI) (bs : List Nat) (w : World) (hn : L.length ≤ 30) (hG : ∀ x ∈ L, LkG x) (h : Hd w (lksD L) v bs) :
    Calls Try.prog 45 #[v] w fun e w' => (∃ v us, e = .returned v ∧ Gl w' w.heap.size 54 3 isPc v L.length us (L.flatMap lkDs)) ∧ Below w.heap.size w w' := by
  obtain ⟨a, c, rfl, hx⟩ := lks_at h
  by_cases h0 : 0 < L.length
  · obtain ⟨g, rfl, hg⟩ := hx h0
    exact scpLk_some g c L.length L rfl w hn hG hg
  · have e0 : L = [] := List.length_eq_zero_iff.1 (by omega)
    subst e0
    refine (scpLk_zero a c w).mono ?_
    rintro e w' ⟨rfl, rfl⟩
    exact ⟨⟨_, _, rfl, ⟨World.ownsRow_made w #[] 0 (Nat.le_refl _) (by unfold maxLen; omega) rfl, Nst.nil _ _, fun d hd => (by cases hd), by unfold isPc; decide⟩⟩, (Below.refl _ _).alloc (Nat.le_refl _) _⟩
end Go.Proofs.Ytpeddaljgmkomaa
