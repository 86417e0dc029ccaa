/-
  The code's DeltaOf.
-/
import Derived.Test.YtpeddaljgmkomaaDlW
import Derived.Test.YtpeddaljgmkomaaPk04
namespace Go.Proofs.Ytpeddaljgmkomaa
open Go.RowKit
set_option linter.unusedVariables false
set_option linter.unusedSimpArgs false
theorem row_apD {w : World} {B n g0 : Nat} {e t : TypeId} {z : Nat} {v : Value} {xs : List Value} {cs : Array Value} {m : Nat × Nat} (hte : t ≠ e) (h : w.ownsRow B e z v n xs) (hb : w.heap[g0]? = some (.cells cs t m)) : some g0 ≠ v.ownBlock := by
  obtain ⟨hl, ⟨h0, hn⟩ | ⟨g, cap, cur, h1, h2, h3, _⟩⟩ := h
  · subst h0; intro c; cases c
  · subst h1
    intro c
    have c : some g0 = some g := c
    injection c with c
    subst c
    rw [h3] at hb
    injection hb with hb
    injection hb with _ hb _
    exact hte hb.symm
set_option maxRecDepth 100000 in
set_option maxHeartbeats 2000000 in
theorem withData_any {B : Nat} {v : Value} {acc : List PcI} (d : ByteArray) (w : World) (hd : d.size ≤ 4000) (ha : acc.length ≤ 4100) (h : w.ownsRow B 89 3 v acc.length (pcC acc)) (hB : B ≤ w.heap.size) :
    Calls Try.prog 100 #[v, .string d] w fun e w' => (∃ v', e = .returned v' ∧ w'.ownsRow B 89 3 v' (wDat acc d).length (pcC (wDat acc d))) ∧ Below B w w' ∧ ∀ (k : Nat) (cs : Array Value), w.heap[k]? = some (.cells cs 118 (0, 0)) → w'.heap[k]? = some (.cells cs 118 (0, 0)) := by
  obtain ⟨i0, hi, hz0, hz1, hz2⟩ := info_parts Try.infP
  by_cases h0 : d.size = 0
  · have hde := do_zero h0
    rw [wDat_no h0]
    subst hde
    have H := hid h
    clear h h0 hd
    go_enter Try.func100, Try.ntmps100
    go_wp2_with fail
    go_ret
    exact ⟨⟨_, rfl, H.out⟩, Below.refl _ _, fun k cs h => h⟩
  · have hde := do_ne (d := d) (by omega)
    have HCL : Hid (∀ w, Calls Try.prog 50 #[.string d] w fun e w' => e = .returned (.string d) ∧ Below w.heap.size w w') := fun w => clone_any d w (by omega)
    rw [wDat_yes h0]
    have H := hid h
    clear h h0
    go_enter Try.func100, Try.ntmps100
    go_wp2_with fail
    refine (HCL.out _).mono ?_
    rintro e w1 ⟨rfl, hb1⟩
    have H1 := hid (own3_call H.out hb1)
    have HB1 := hid hb1
    have hsz := hb1.size
    clear hb1
    go_wp2_with (at_builtin; (refine wpList_append_own _ rfl _ _ 52 rfl B 89 i0 _ 3 32 Try.underlying52 hi hz0 hz1 hz2 rfl (by decide) _ _ _ rfl (H1.out.alloc _) ⟨w1.heap.size, 0, none⟩ 1 1 [_, _, _] rfl rfl (cell_three_at rfl) ?c2 ?c3 ?c4 ?c5 ?_))
    case c2 => first | exact three_one _ _ _ | exact ⟨rfl, rfl⟩ | simp [Value.oneCell']
    case c3 => unfold maxLen; omega
    case c4 => omega
    case c5 => first | omega | (rw [World.size_alloc]; omega)
    intro v' w4 hown' hgrow _
    have HR : Hid (w4.ownsRow B 89 3 v' (acc ++ [(⟨0, 0, d⟩ : PcI)]).length (pcC (acc ++ [(⟨0, 0, d⟩ : PcI)]))) := by
      have h1 := hown'
      have e : pcC acc ++ [.int .i64 0, .int .i64 0, .string d] = pcC (acc ++ [(⟨0, 0, d⟩ : PcI)]) := pcC_snoc acc ⟨0, 0, d⟩
      rw [e] at h1
      rw [List.length_append]; exact h1
    have HBB : Hid (Below B w w4) := ((HB1.out.mono hB).alloc (by omega) _).grown hgrow (by simp; omega) (fun k hk => (H1.out.lt k hk).1)
    have HK : Hid (∀ (k : Nat) (cs : Array Value), w.heap[k]? = some (.cells cs 118 (0, 0)) → w4.heap[k]? = some (.cells cs 118 (0, 0))) := fun k cs hk => by
      have hk1 := (HB1.out.block k (Array.getElem?_eq_some_iff.1 hk).1).trans hk
      have hl1 := (Array.getElem?_eq_some_iff.1 hk1).1
      exact (hgrow.block k (by simp; omega) (row_apD (by decide) H1.out hk1)).trans ((Below.heap_alloc _ _ _ hl1).trans hk1)
    clear hown' hgrow H H1 HB1
    go_wp2_with fail
    go_ret
    exact ⟨⟨_, rfl, HR.out⟩, HBB.out, HK.out⟩
set_option maxRecDepth 100000 in
set_option maxHeartbeats 4000000 in
theorem do_go (o s : ByteArray) (w : World) (ho : o.size ≤ 4000) (hs : s.size ≤ 4000) :
    Calls Try.prog 76 #[.string o, .string s] w fun e w' => DoPost w (doD o s) e w' := by
  obtain ⟨Z, hZ⟩ : ∃ Z, Z = doL o s := ⟨_, rfl⟩
  have HZ0 : Hid (Z = dl o s s.size 0 0 []) := hZ
  obtain ⟨A, hA⟩ : ∃ A, A = doD o s := ⟨_, rfl⟩
  have HAN : Hid (500 < Z.length → A = none) := fun h => by rw [hA]; unfold doD; rw [if_neg (by omega), if_pos (by rw [← hZ]; exact h)]
  have HAY : Hid (¬ 500 < Z.length → A = some Z) := fun h => by rw [hA]; unfold doD; rw [if_neg (by omega), ← hZ, if_neg h]
  rw [← hA]
  obtain ⟨i0, hi, hz0, hz1, hz2⟩ := info_parts Try.infP
  have hinf : Option.map (·.size) (Try.prog.info? 118) = some 3 := by kernel_rfl
  have hoI : ¬ (4000 : Int) < (o.size : Int) := by omega
  have hsI : ¬ (4000 : Int) < (s.size : Int) := by omega
  have HPL : Hid (Calls Try.prog 98 #[.string o] w fun e w' => (e = .returned (.agg #[.string o, .map (some (w.heap.size + 1)), .slice (some ⟨w.heap.size + 2, 0, none⟩) o.size o.size]) ∧ PO6 o w.heap.size w') ∧ Below w.heap.size w w') := places6_any o w ho
  clear hZ hA
  go_enter Try.func76, Try.ntmps76
  go_wp2_with fail
  refine HPL.out.mono ?_
  rintro e w1 ⟨⟨rfl, hP⟩, hb1⟩
  have HB1 := hid hb1
  have HP := hid hP
  obtain ⟨W, hW⟩ : ∃ W, W = w1.alloc (.cells #[.string o, .map (some (w.heap.size + 1)), .slice (some ⟨w.heap.size + 2, 0, none⟩) o.size o.size] 118) := ⟨_, rfl⟩
  have HST : Hid (W.heap[w1.heap.size]? = some (.cells (opV o w.heap.size) 118 (0, 0))) := by rw [hW]; exact heap_alloc_new w1 _
  have HD0 : Hid (DO w1 W (.slice none 0 0) []) := ⟨⟨rfl, Or.inl ⟨rfl, rfl⟩⟩, by rw [hW]; exact (Below.refl _ _).alloc (Nat.le_refl _) _⟩
  clear hP hb1 HPL
  go_wp2_with fail
  try rw [← hW]
  clear hW
  go_loopw [7, 8, 9] (fun x y c wr => ∃ (k a t : Nat) (acc : List PcI) (v : Value), v = x ∧ t ≤ a ∧ a ≤ s.size ∧ s.size ≤ a + k ∧ acc.length ≤ t ∧ y = .int .i64 (t : Int) ∧ c = .int .i64 (a : Int) ∧ Hid (Z = dl o s k a t acc) ∧ Hid (DO w1 wr v acc) ∧ Hid (wr.heap[w1.heap.size]? = some (.cells (opV o w.heap.size) 118 (0, 0)))) (fun _ _ c _ => s.size - (lonIntOf c).toNat)
  case atStart => exact ⟨s.size, 0, 0, [], _, rfl, by omega, by omega, by omega, by simp, rfl, rfl, HZ0, HD0, HST⟩
  case round =>
    clear HD0 HZ0 HST
    obtain ⟨k, a, t, acc, v, rfl, hta, has, hk, hal, rfl, rfl, HZ, HD, HST⟩ := hrel
    by_cases hlt : a < s.size
    · have hltI : (a : Int) < (s.size : Int) := by omega
      have haI : (a : Int) ≤ (s.size : Int) := by omega
      obtain ⟨k, rfl⟩ : ∃ j, k = j + 1 := ⟨k - 1, by omega⟩
      obtain ⟨F, hF⟩ : ∃ F, F = (lg o s a).1 := ⟨_, rfl⟩
      obtain ⟨n, hn⟩ : ∃ n, n = (lg o s a).2 := ⟨_, rfl⟩
      have hble := (bo_le o s a).2.1
      have HBY : Hid (n = 0 → Z = dl o s k (a + 1) t acc) := fun h => by
        have h6 : (bo o s a).2 < 6 := by
          rw [hn] at h
          unfold lg at h
          split at h
          · assumption
          · rename_i c; have h : (bo o s a).2 = 0 := h; omega
        rw [HZ.out, dl_byte hlt h6]
      have HPC : Hid (n ≠ 0 → 6 ≤ n ∧ n ≤ s.size - a ∧ Z = dl o s k (a + n) (a + n) (wDat acc (s.extract t a) ++ [⟨(F : Int), (n : Int), ⟨#[]⟩⟩])) := fun h => by
        have h6 : ¬ (bo o s a).2 < 6 := fun c => by
          rw [hn] at h
          unfold lg at h
          rw [if_pos c] at h
          exact h rfl
        have e : lg o s a = ((bo o s a).1 - 1, (bo o s a).2) := by unfold lg; rw [if_neg h6]
        rw [e] at hF hn
        have hF : F = (bo o s a).1 - 1 := hF
        have hn : n = (bo o s a).2 := hn
        rw [hF, hn]
        exact ⟨by omega, hble, by rw [HZ.out, dl_piece hlt h6]⟩
      have HPO : Hid (∀ w', Below w1.heap.size w1 w' → PO6 o w.heap.size w') := fun w' hb => HP.out.below hb HP.out.lt
      have HLN : Hid (Calls Try.prog 99 #[.agg (opV o w.heap.size), .string (s.extract a s.size)] wr.drew fun e w' => e = .returned (.tuple #[.int .i64 (F : Int), .int .i64 (n : Int)]) ∧ Below wr.drew.heap.size wr.drew w') := by
        rw [hF, hn]
        exact longest6_any o s a w.heap.size wr.drew ho hs has (HPO.out _ HD.out.below.drew)
      obtain ⟨S, hSS⟩ : ∃ S : World → Prop, S = fun w' => w'.heap[w1.heap.size]? = some (.cells (opV o w.heap.size) 118 (0, 0)) := ⟨_, rfl⟩
      have HSS := hid hSS
      have hS1 : S wr.drew := by rw [hSS]; exact HST.out
      have HXS : Hid (∀ w', S w' → w'.heap[w1.heap.size]? = some (.cells (opV o w.heap.size) 118 (0, 0))) := fun w' h => by rw [hSS] at h; exact h
      have HTA : Hid (t ≤ a ∧ a < s.size ∧ s.size ≤ a + (k + 1) ∧ acc.length ≤ t) := ⟨hta, hlt, hk, hal⟩
      clear hSS hF hn hble HZ
      go_wp2_with fail
      refine wp_region_held (S := S) (by kernel_rfl) ?_
      change wpAnyH _ _ _ _ _ _ _ _ (World.drew _)
      refine wpAnyH_take (i := 0) (v := .agg (opV o w.heap.size)) rfl (by kernel_rfl) (by kernel_rfl) (by kernel_rfl) (fun _ _ _ h => h) (Or.inl ⟨by rfl, by intro w' hS'; exact yield_load_row 118 _ w1.heap.size (opV o w.heap.size) rfl rfl (run_loadVar_row (P := Try.prog) w' w1.heap.size 118 118 (opV o w.heap.size) (0, 0) _ (HXS.out w' hS') Try.underlying118 rfl hinf)⟩) hS1 ?_
      (try simp only [List.getElem_toArray, List.getElem_cons_succ, List.getElem_cons_zero, Act.put, List.setIfInBounds_toArray, List.set_cons_zero, List.set_cons_succ])
      refine wpAnyH_take (i := 1) (v := .string s) rfl (by kernel_rfl) (by kernel_rfl) (by kernel_rfl) (fun _ _ _ h => h) (Or.inl ⟨by rfl, by intro w' hS'; go_simp <;> (first | omega | (rw [IntKind.wrap_i64]; omega) | (rw [IntKind.wrap_u64]; omega) | (rw [IntKind.wrap_u32]; omega) | (rw [Int.tmod_eq_emod_of_nonneg (by omega)]) | rfl)⟩) hS1 ?_
      (try simp only [List.getElem_toArray, List.getElem_cons_succ, List.getElem_cons_zero, Act.put, List.setIfInBounds_toArray, List.set_cons_zero, List.set_cons_succ])
      refine wpAnyH_take (i := 2) (v := .int .i64 (a : Int)) rfl (by kernel_rfl) (by kernel_rfl) (by kernel_rfl) (fun _ _ _ h => h) (Or.inl ⟨by rfl, by intro w' hS'; go_simp <;> (first | omega | (rw [IntKind.wrap_i64]; omega) | (rw [IntKind.wrap_u64]; omega) | (rw [IntKind.wrap_u32]; omega) | (rw [Int.tmod_eq_emod_of_nonneg (by omega)]) | rfl)⟩) hS1 ?_
      (try simp only [List.getElem_toArray, List.getElem_cons_succ, List.getElem_cons_zero, Act.put, List.setIfInBounds_toArray, List.set_cons_zero, List.set_cons_succ])
      refine wpAnyH_take (i := 3) (v := .string (s.extract a s.size)) rfl (by kernel_rfl) (by kernel_rfl) (by kernel_rfl) (fun _ _ _ h => h) (Or.inl ⟨by rfl, by intro w' hS'; go_simp <;> (first | omega | (rw [IntKind.wrap_i64]; omega) | (rw [IntKind.wrap_u64]; omega) | (rw [IntKind.wrap_u32]; omega) | (rw [Int.tmod_eq_emod_of_nonneg (by omega)]) | rfl)⟩) hS1 ?_
      (try simp only [List.getElem_toArray, List.getElem_cons_succ, List.getElem_cons_zero, Act.put, List.setIfInBounds_toArray, List.set_cons_zero, List.set_cons_succ])
      refine held_stepS (i := 4) (by kernel_rfl) rfl (by rfl) ?_
      go_simp
      refine HLN.out.mono ?_
      rintro e w5 ⟨rfl, hb5⟩
      have HST5 : Hid (w5.heap[w1.heap.size]? = some (.cells (opV o w.heap.size) 118 (0, 0))) := (hb5.block _ (Array.getElem?_eq_some_iff.1 HST.out).1).trans HST.out
      have HD5 : Hid (DO w1 w5 v acc) := DO.call (wr := wr.drew) ⟨HD.out.own, HD.out.below.drew⟩ hb5
      have hS5 : S w5 := by rw [HSS.out]; exact HST5.out
      clear hb5
      refine ⟨hS5, ?_⟩
      (try simp only [List.getElem_toArray, List.getElem_cons_succ, List.getElem_cons_zero, Act.put, List.setIfInBounds_toArray, List.set_cons_zero, List.set_cons_succ])
      refine wpAnyH_take (i := 5) (v := .tuple #[.int .i64 (F : Int), .int .i64 (n : Int)]) rfl (by kernel_rfl) (by kernel_rfl) (by kernel_rfl) (fun _ _ _ h => h) (Or.inl ⟨by rfl, by intro w' hS'; go_simp <;> (first | omega | (rw [IntKind.wrap_i64]; omega) | (rw [IntKind.wrap_u64]; omega) | (rw [IntKind.wrap_u32]; omega) | (rw [Int.tmod_eq_emod_of_nonneg (by omega)]) | rfl)⟩) hS5 ?_
      (try simp only [List.getElem_toArray, List.getElem_cons_succ, List.getElem_cons_zero, Act.put, List.setIfInBounds_toArray, List.set_cons_zero, List.set_cons_succ])
      refine wpAnyH_take (i := 6) (v := .int .i64 (F : Int)) rfl (by kernel_rfl) (by kernel_rfl) (by kernel_rfl) (fun _ _ _ h => h) (Or.inl ⟨by rfl, by intro w' hS'; go_simp <;> (first | omega | (rw [IntKind.wrap_i64]; omega) | (rw [IntKind.wrap_u64]; omega) | (rw [IntKind.wrap_u32]; omega) | (rw [Int.tmod_eq_emod_of_nonneg (by omega)]) | rfl)⟩) hS5 ?_
      (try simp only [List.getElem_toArray, List.getElem_cons_succ, List.getElem_cons_zero, Act.put, List.setIfInBounds_toArray, List.set_cons_zero, List.set_cons_succ])
      refine wpAnyH_take (i := 7) (v := .int .i64 (n : Int)) rfl (by kernel_rfl) (by kernel_rfl) (by kernel_rfl) (fun _ _ _ h => h) (Or.inl ⟨by rfl, by intro w' hS'; go_simp <;> (first | omega | (rw [IntKind.wrap_i64]; omega) | (rw [IntKind.wrap_u64]; omega) | (rw [IntKind.wrap_u32]; omega) | (rw [Int.tmod_eq_emod_of_nonneg (by omega)]) | rfl)⟩) hS5 ?_
      (try simp only [List.getElem_toArray, List.getElem_cons_succ, List.getElem_cons_zero, Act.put, List.setIfInBounds_toArray, List.set_cons_zero, List.set_cons_succ])
      refine wpAnyH_take (i := 8) (v := .int .i64 (F : Int)) rfl (by kernel_rfl) (by kernel_rfl) (by kernel_rfl) (fun _ _ _ h => h) (Or.inl ⟨by rfl, by intro w' hS'; go_simp <;> (first | omega | (rw [IntKind.wrap_i64]; omega) | (rw [IntKind.wrap_u64]; omega) | (rw [IntKind.wrap_u32]; omega) | (rw [Int.tmod_eq_emod_of_nonneg (by omega)]) | rfl)⟩) hS5 ?_
      (try simp only [List.getElem_toArray, List.getElem_cons_succ, List.getElem_cons_zero, Act.put, List.setIfInBounds_toArray, List.set_cons_zero, List.set_cons_succ])
      refine wpAnyH_take (i := 9) (v := .int .i64 (n : Int)) rfl (by kernel_rfl) (by kernel_rfl) (by kernel_rfl) (fun _ _ _ h => h) (Or.inl ⟨by rfl, by intro w' hS'; go_simp <;> (first | omega | (rw [IntKind.wrap_i64]; omega) | (rw [IntKind.wrap_u64]; omega) | (rw [IntKind.wrap_u32]; omega) | (rw [Int.tmod_eq_emod_of_nonneg (by omega)]) | rfl)⟩) hS5 ?_
      (try simp only [List.getElem_toArray, List.getElem_cons_succ, List.getElem_cons_zero, Act.put, List.setIfInBounds_toArray, List.set_cons_zero, List.set_cons_succ])
      refine wpAnyH_done (by kernel_rfl) ?_ _
      clear hS1 hS5 HXS HSS HLN HST HD
      by_cases hn0 : n = 0
      · have hn0I : (n : Int) = 0 := by omega
        have HZ2 := hid (HBY.out hn0)
        subst hn0
        clear HBY HPC
        go_wp2_with fail
        go_roundw
        case rel => exact ⟨k, a + 1, t, acc, _, rfl, by omega, by omega, by omega, hal, rfl, by go_num, HZ2, HD5, HST5⟩
        case measure => simp [lonIntOf]; omega
      · obtain ⟨h6, hns, hz2⟩ := HPC.out hn0
        have HZ2 := hid hz2
        have hn0I : ¬ (n : Int) = 0 := by omega
        have hn0b : ((n : Int) == 0) = false := beq_eq_false_iff_ne.2 hn0I
        have htI : (t : Int) ≤ (a : Int) := by omega
        have haI2 : (a : Int) ≤ (s.size : Int) := by omega
        have hQs : (s.extract t a).size ≤ 4000 := by rw [ByteArray.size_extract]; omega
        have HWD := hid (fun (h : w5.ownsRow w1.heap.size 89 3 v acc.length (pcC acc)) => withData_any (s.extract t a) w5 hQs (by omega) h HD5.out.below.size)
        generalize hQQ : s.extract t a = Q at HWD HZ2 hQs
        have HQQ := hid hQQ
        clear HBY HPC hz2 hQQ
        go_wp2_with fail
        rw [HQQ.out]
        refine (HWD.out HD5.out.own).mono ?_
        rintro e w6 ⟨⟨v6, rfl, ho6⟩, hb6, hk6⟩
        have HD6 : Hid (DO w1 w6 v6 (wDat acc Q)) := ⟨ho6, HD5.out.below.trans hb6⟩
        have HST6 := hid (hk6 _ _ HST5.out)
        have hwl := wDat_len acc Q
        clear ho6 hb6 hk6 HD5 HST5 HWD
        go_wp2_with (at_builtin; (refine wpList_append_own _ rfl _ _ 52 rfl w1.heap.size 89 i0 _ 3 32 Try.underlying52 hi hz0 hz1 hz2 rfl (by decide) _ _ _ rfl (HD6.out.own.alloc _) ⟨w6.heap.size, 0, none⟩ 1 1 [_, _, _] rfl rfl (cell_three_at rfl) ?c2 ?c3 ?c4 ?c5 ?_))
        case c2 => first | exact three_one _ _ _ | exact ⟨rfl, rfl⟩ | simp [Value.oneCell']
        case c3 => unfold maxLen; omega
        case c4 => omega
        case c5 => have := HD6.out.below.size; first | omega | (rw [World.size_alloc]; omega)
        intro v' w7 hown' hgrow _
        have HD7 := hid (HD6.out.put (p := ⟨(F : Int), (n : Int), ⟨#[]⟩⟩) _ hown' hgrow)
        have HST7 : Hid (w7.heap[w1.heap.size]? = some (.cells (opV o w.heap.size) 118 (0, 0))) := by
          have hl6 := (Array.getElem?_eq_some_iff.1 HST6.out).1
          exact (hgrow.block _ (by simp; omega) (row_apD (by decide) HD6.out.own HST6.out)).trans ((Below.heap_alloc _ _ _ hl6).trans HST6.out)
        clear hown' hgrow HD6 HST6
        go_wp2_with fail
        go_roundw
        case rel => exact ⟨k, a + n, a + n, _, _, rfl, by omega, by omega, by omega, by rw [List.length_append]; show _ + 1 ≤ _; omega, by go_num, by go_num, HZ2, HD7, HST7⟩
        case measure => simp [lonIntOf]; omega
    · obtain rfl : a = s.size := by omega
      have hze : Z = wDat acc (s.extract t s.size) := by rw [HZ.out, dl_end hlt]
      have htI : (t : Int) ≤ (s.size : Int) := by omega
      have hQs : (s.extract t s.size).size ≤ 4000 := by rw [ByteArray.size_extract]; omega
      have HWD := hid (fun (h : wr.ownsRow w1.heap.size 89 3 v acc.length (pcC acc)) => withData_any (s.extract t s.size) wr hQs (by omega) h HD.out.below.size)
      rw [← hze] at HWD
      clear HZ hze
      go_wp2_with fail
      refine (HWD.out HD.out.own).mono ?_
      rintro e w6 ⟨⟨v6, rfl, ho6⟩, hb6, _⟩
      have HO6 := hid (own3_base ho6 HB1.out.size)
      have HB6 := hid (bl3 HB1.out (HD.out.below.trans hb6) HB1.out.size)
      obtain ⟨ra, rc, rfl⟩ := own3_slice ho6
      clear ho6 hb6 HD HWD
      by_cases h5 : 500 < Z.length
      · have h5I : (500 : Int) < (Z.length : Int) := by omega
        obtain rfl := HAN.out h5
        go_wp2_with fail
        go_ret2
        exact do_nil HB6.out
      · have h5I : ¬ (500 : Int) < (Z.length : Int) := by omega
        obtain rfl := HAY.out h5
        go_wp2_with fail
        go_ret2
        exact ⟨⟨_, rfl, HO6.out⟩, HB6.out⟩
theorem sdo_big (o s : ByteArray) (w : World) (h : 4000 < o.size ∨ 4000 < s.size) (ho : o.size ≤ 1048576) (hs : s.size ≤ 1048576) :
    Calls Try.prog 76 #[.string o, .string s] w fun e w' => DoPost w (doD o s) e w' := by
  have e : doD o s = none := by unfold doD; rw [if_pos h]
  rw [e]
  by_cases h1 : 4000 < o.size
  · have h1I : (4000 : Int) < (o.size : Int) := by omega
    clear h e
    go_enter Try.func76, Try.ntmps76
    go_wp2_with fail
    go_ret2
    exact do_nil (Below.refl _ _)
  · have h1I : ¬ (4000 : Int) < (o.size : Int) := by omega
    have h2I : (4000 : Int) < (s.size : Int) := by omega
    clear h e
    go_enter Try.func76, Try.ntmps76
    go_wp2_with fail
    go_ret2
    exact do_nil (Below.refl _ _)
theorem do_any (o s : ByteArray) (w : World) (ho : o.size ≤ 1048576) (hs : s.size ≤ 1048576) :
    Calls Try.prog 76 #[.string o, .string s] w fun e w' => DoPost w (doD o s) e w' := by
  by_cases h : 4000 < o.size ∨ 4000 < s.size
  · exact sdo_big o s w h ho hs
  · exact do_go o s w (by omega) (by omega)
end Go.Proofs.Ytpeddaljgmkomaa
