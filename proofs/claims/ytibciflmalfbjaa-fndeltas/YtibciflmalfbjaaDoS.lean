/-
  What the specification's DeltaOf answers.
-/
import Derived.Test.YtibciflmalfbjaaDoM
import Derived.BigQuiet
namespace Go.Proofs.Ytibciflmalfbjaa
open Go.RowKit
set_option linter.unusedVariables false
set_option linter.unusedSimpArgs false
set_option maxRecDepth 100000 in
set_option maxHeartbeats 8000000 in
theorem sdo_go (o s : ByteArray) (w : World) (ho : o.size ≤ 4000) (hs : s.size ≤ 4000) :
    Calls Try.prog 12 #[.string o, .string s] w fun e w' => DoPost w (doD o s) e w' := by
  obtain ⟨Z, hZ⟩ : ∃ Z, Z = doL o s := ⟨_, rfl⟩
  have HZ0 : Hid (Z = dl o s s.size 0 0 []) := hZ
  obtain ⟨A, hA⟩ : ∃ A, A = doD o s := ⟨_, rfl⟩
  have HAN : Hid (500 < Z.length → A = none) := fun h => by rw [hA]; unfold doD; rw [if_neg (by omega), if_pos (by rw [← hZ]; exact h)]
  have HAY : Hid (¬ 500 < Z.length → A = some Z) := fun h => by rw [hA]; unfold doD; rw [if_neg (by omega), ← hZ, if_neg h]
  rw [← hA]
  obtain ⟨i0, hi, hz0, hz1, hz2⟩ := info_parts Try.infP
  have hoI : ¬ (4000 : Int) < (o.size : Int) := by omega
  have hsI : ¬ (4000 : Int) < (s.size : Int) := by omega
  have HD0 : Hid (DO w (w.alloc (.cells #[] 39)) (.slice (some ⟨w.heap.size, 0, none⟩) 0 0) []) := by
    have h := World.ownsRow_made w #[] 0 (e := 39) (base := w.heap.size) (size := 3) (Nat.le_refl _) (by unfold maxLen; omega) rfl
    exact ⟨by simpa [pcC] using h, (Below.refl _ _).alloc (Nat.le_refl _) _⟩
  have HE0 : Hid ((⟨#[]⟩ : ByteArray) = s.extract 0 0) := by
    show _ = _
    exact (do_zero (by rw [ByteArray.size_extract]; omega)).symm
  clear hZ hA
  go_enter Try.func12, Try.ntmps12
  go_wp2_with fail
  generalize w.alloc (.cells #[] 39) = W at HD0 ⊢
  go_loopw [6, 7, 8] (fun x d c wr => ∃ (k a t : Nat) (acc : List PcI) (v : Value), v = x ∧ t ≤ a ∧ a ≤ s.size ∧ s.size ≤ a + k ∧ acc.length ≤ t ∧ d = .string (s.extract t a) ∧ c = .int .i64 (a : Int) ∧ Hid (Z = dl o s k a t acc) ∧ Hid (DO w wr v acc)) (fun _ _ c _ => s.size - (lonIntOf c).toNat)
  case atStart => exact ⟨s.size, 0, 0, [], _, rfl, by omega, by omega, by omega, by simp, by rw [← HE0.out], rfl, HZ0, HD0⟩
  case round =>
    clear HD0 HZ0 HE0
    obtain ⟨k, a, t, acc, v, rfl, hta, has, hk, hal, rfl, rfl, HZ, HD⟩ := hrel
    by_cases hlt : a < s.size
    · have hltI : (a : Int) < (s.size : Int) := by omega
      obtain ⟨k, rfl⟩ : ∃ j, k = j + 1 := ⟨k - 1, by omega⟩
      obtain ⟨B, hB⟩ : ∃ B : Nat → Nat × Nat, B = best (fo o s a) := ⟨_, rfl⟩
      have HM : Hid (∀ p, (B p).2 < fo o s a (p + 1) → B (p + 1) = (p + 1, fo o s a (p + 1))) := fun p h => by rw [hB] at h ⊢; exact best_more h
      have HL : Hid (∀ p, ¬ (B p).2 < fo o s a (p + 1) → B (p + 1) = B p) := fun p h => by rw [hB] at h ⊢; exact best_less h
      have HF : Hid (∀ p n, n ≤ clM o s p a → (∀ j, j < n → bsOf o (p + j) = bsOf s (a + j)) → (n = clM o s p a ∨ bsOf o (p + n) ≠ bsOf s (a + n)) → fo o s a (p + 1) = n) := fun p n h1 h2 h3 => by
        show cl o s (p + 1 - 1) a = n
        rw [Nat.add_sub_cancel]; exact cl_eq h1 h2 h3
      have HBO : Hid (bo o s a = B o.size) := by rw [hB]; rfl
      have HBZ : Hid (B 0 = (0, 0)) := by rw [hB]; rfl
      have HLT := hid hlt
      have HTA : Hid (t ≤ a ∧ a < s.size ∧ s.size ≤ a + (k + 1) ∧ acc.length ≤ t) := ⟨hta, hlt, hk, hal⟩
      clear hB
      generalize hfo : fo o s a = f at HM HL HF
      generalize hQ : s.extract t a = Q
      have HQ := hid hQ
      clear hQ hfo
      go_wp2_with fail
      go_loopw [9, 10, 11] (fun x y c wr => ∃ p : Nat, p ≤ o.size ∧ x = .int .i64 ((((B p).1 - 1 : Nat)) : Int) ∧ y = .int .i64 ((B p).2 : Nat) ∧ c = .int .i64 (p : Int) ∧ Hid (DO w wr v acc)) (fun _ _ c _ => o.size - (lonIntOf c).toNat)
      case atStart => exact ⟨0, by omega, by rw [HBZ.out]; rfl, by rw [HBZ.out]; rfl, rfl, HD⟩
      case round =>
        clear HD
        obtain ⟨p, hp, rfl, rfl, rfl, HD⟩ := hrel
        by_cases hpl : p < o.size
        · have hpI : (p : Int) < (o.size : Int) := by omega
          have HMM := hid (HM.out p)
          have HLL := hid (HL.out p)
          have HF1 := hid (HF.out p)
          generalize hDD : (B p).1 - 1 = D at *
          generalize hN : (B p).2 = N0 at *
          rename World => wx
          go_wp2_with fail
          go_loopw [12] (fun c wr => ∃ n : Nat, n ≤ clM o s p a ∧ c = .int .i64 (n : Int) ∧ Hid (∀ j, j < n → bsOf o (p + j) = bsOf s (a + j)) ∧ Hid (DO w wr v acc)) (fun c _ => 4000 - (lonIntOf c).toNat)
          case atStart => exact ⟨0, by omega, rfl, fun j hj => absurd hj (by omega), HD⟩
          case round =>
            clear HD
            obtain ⟨n, hn, rfl, HE, HD⟩ := hrel
            have hcm : clM o s p a = min (o.size - p) (s.size - a) := rfl
            obtain ⟨q1, hq1⟩ : ∃ q, q = p + n := ⟨_, rfl⟩
            obtain ⟨q2, hq2⟩ : ∃ q, q = a + n := ⟨_, rfl⟩
            have hw1 : IntKind.i64.wrap ((p : Int) + (n : Int)) = (q1 : Int) := by rw [IntKind.wrap_i64]; omega
            have hw2 : IntKind.i64.wrap ((a : Int) + (n : Int)) = (q2 : Int) := by rw [IntKind.wrap_i64]; omega
            by_cases hL1 : q1 < o.size
            · have hy1 : (q1 : Int) < (o.size : Int) := by omega
              by_cases hL2 : q2 < s.size
              · have hy2 : (q2 : Int) < (s.size : Int) := by omega
                have b1 := bsOf_at o q1 hL1
                have b2 := bsOf_at s q2 hL2
                have l1 := bsOf_lt o q1
                have l2 := bsOf_lt s q2
                by_cases heq : bsOf o q1 = bsOf s q2
                · have HE2 : Hid (∀ j, j < n + 1 → bsOf o (p + j) = bsOf s (a + j)) := fun j hj => by
                    by_cases e : j = n
                    · subst e; rw [← hq1, ← hq2]; exact heq
                    · exact HE.out j (by omega)
                  have hn1 : n + 1 ≤ clM o s p a := by omega
                  have HN1 := hid hn1
                  have hn4 : n + 1 ≤ 4000 := by omega
                  rw [heq] at b1
                  generalize bsOf s q2 = c2 at b1 b2 l2
                  clear heq l1 HE hq1 hq2 hcm hn hn1
                  go_wp2_with fail
                  go_quiet (fail)
                  go_wp2_with fail
                  go_roundw
                  case rel => exact ⟨n + 1, HN1.out, by go_num, HE2, HD.out.drewN _⟩
                  case measure => simp [lonIntOf]; omega
                · have hne : ¬ ((bsOf o q1 : Nat) : Int) = ((bsOf s q2 : Nat) : Int) := by omega
                  have hne' : (((bsOf o q1 : Nat) : Int) == ((bsOf s q2 : Nat) : Int)) = false := beq_eq_false_iff_ne.2 hne
                  have hpf : n = clM o s p a ∨ bsOf o (p + n) ≠ bsOf s (a + n) := Or.inr (by rw [← hq1, ← hq2]; exact heq)
                  have hf : f (p + 1) = n := HF1.out n hn HE.out hpf
                  clear hq1 hq2 hcm heq hpf
                  generalize bsOf o q1 = c1 at b1 l1 hne hne'
                  generalize bsOf s q2 = c2 at b2 l2 hne hne'
                  by_cases hl : N0 < n
                  · have hl1 : (N0 : Int) < (n : Int) := by omega
                    have hnew := HMM.out (by rw [hf]; exact hl)
                    rw [hf] at hnew
                    have HNEW : Hid _ := hnew
                    clear hnew hf
                    go_wp2_with fail
                    go_quiet (fail)
                    go_wp2_with fail
                    go_roundw
                    case rel => exact ⟨p + 1, by omega, by rw [HNEW.out]; show _ = Value.int .i64 ((p + 1 - 1 : Nat) : Int); rw [Nat.add_sub_cancel], by rw [HNEW.out], by go_num, HD.out.drewN _⟩
                    case measure => simp [lonIntOf]; omega
                  · have hl1 : ¬ (N0 : Int) < (n : Int) := by omega
                    have hnew := HLL.out (by rw [hf]; exact hl)
                    have HNEW : Hid _ := hnew
                    clear hnew hf
                    go_wp2_with fail
                    go_quiet (fail)
                    go_wp2_with fail
                    go_roundw
                    case rel => exact ⟨p + 1, by omega, by rw [HNEW.out, hDD], by rw [HNEW.out, hN], by go_num, HD.out.drewN _⟩
                    case measure => simp [lonIntOf]; omega
              · have hy2 : ¬ (q2 : Int) < (s.size : Int) := by omega
                have hLd : decide ((q2 : Int) < (s.size : Int)) = false := decide_eq_false hy2
                have hLd2 : decide (q2 < s.size) = false := decide_eq_false hL2
                have hpf : n = clM o s p a ∨ bsOf o (p + n) ≠ bsOf s (a + n) := Or.inl (by omega)
                have hf : f (p + 1) = n := HF1.out n hn HE.out hpf
                clear hq1 hq2 hcm hpf
                by_cases hl : N0 < n
                · have hl1 : (N0 : Int) < (n : Int) := by omega
                  have hnew := HMM.out (by rw [hf]; exact hl)
                  rw [hf] at hnew
                  have HNEW : Hid _ := hnew
                  clear hnew hf
                  go_wp2_with fail
                  go_quiet (fail)
                  go_wp2_with fail
                  go_roundw
                  case rel => exact ⟨p + 1, by omega, by rw [HNEW.out]; show _ = Value.int .i64 ((p + 1 - 1 : Nat) : Int); rw [Nat.add_sub_cancel], by rw [HNEW.out], by go_num, HD.out.drewN _⟩
                  case measure => simp [lonIntOf]; omega
                · have hl1 : ¬ (N0 : Int) < (n : Int) := by omega
                  have hnew := HLL.out (by rw [hf]; exact hl)
                  have HNEW : Hid _ := hnew
                  clear hnew hf
                  go_wp2_with fail
                  go_quiet (fail)
                  go_wp2_with fail
                  go_roundw
                  case rel => exact ⟨p + 1, by omega, by rw [HNEW.out, hDD], by rw [HNEW.out, hN], by go_num, HD.out.drewN _⟩
                  case measure => simp [lonIntOf]; omega
            · have hy1 : ¬ (q1 : Int) < (o.size : Int) := by omega
              have hLd : decide ((q1 : Int) < (o.size : Int)) = false := decide_eq_false hy1
              have hLd2 : decide (q1 < o.size) = false := decide_eq_false hL1
              have hpf : n = clM o s p a ∨ bsOf o (p + n) ≠ bsOf s (a + n) := Or.inl (by omega)
              have hf : f (p + 1) = n := HF1.out n hn HE.out hpf
              clear hq1 hq2 hcm hpf
              by_cases hl : N0 < n
              · have hl1 : (N0 : Int) < (n : Int) := by omega
                have hnew := HMM.out (by rw [hf]; exact hl)
                rw [hf] at hnew
                have HNEW : Hid _ := hnew
                clear hnew hf
                go_wp2_with fail
                go_quiet (fail)
                go_wp2_with fail
                go_roundw
                case rel => exact ⟨p + 1, by omega, by rw [HNEW.out]; show _ = Value.int .i64 ((p + 1 - 1 : Nat) : Int); rw [Nat.add_sub_cancel], by rw [HNEW.out], by go_num, HD.out.drewN _⟩
                case measure => simp [lonIntOf]; omega
              · have hl1 : ¬ (N0 : Int) < (n : Int) := by omega
                have hnew := HLL.out (by rw [hf]; exact hl)
                have HNEW : Hid _ := hnew
                clear hnew hf
                go_wp2_with fail
                go_quiet (fail)
                go_wp2_with fail
                go_roundw
                case rel => exact ⟨p + 1, by omega, by rw [HNEW.out, hDD], by rw [HNEW.out, hN], by go_num, HD.out.drewN _⟩
                case measure => simp [lonIntOf]; omega
        · obtain rfl : p = o.size := by omega
          have hble := bo_le o s a
          rw [HBO.out] at hble
          obtain ⟨hd1, hn1, _⟩ := hble
          obtain ⟨hta, hlt, hk, hal⟩ := HTA.out
          have HPC : Hid (¬ (bo o s a).2 < 6 → Z = dl o s k (a + (B o.size).2) (a + (B o.size).2) (wDat acc Q ++ [⟨((B o.size).1 - 1 : Nat), ((B o.size).2 : Nat), ⟨#[]⟩⟩])) := fun h => by rw [HZ.out, dl_piece hlt h, HBO.out, HQ.out]
          have HBY : Hid ((bo o s a).2 < 6 → Z = dl o s k (a + 1) t acc) := fun h => by rw [HZ.out, dl_byte hlt h]
          rw [HBO.out] at HPC HBY
          generalize (B o.size).1 - 1 = D at HPC ⊢
          generalize (B o.size).2 = n at hn1 HPC HBY ⊢
          clear HZ HBO hd1 HM HL HF HBZ
          by_cases h6 : n < 6
          · have h6I : (n : Int) < 6 := by omega
            have HZ2 := hid (HBY.out h6)
            have HQ2 : Hid (s.extract t (a + 1) = Q ++ s.extract a (a + 1)) := by show _ = _; rw [← HQ.out]; exact (do_ext s t a (a + 1) hta (by omega) (by omega)).symm
            have hx1 : (a : Int) ≤ (a : Int) + 1 := by omega
            have hx2 : (a : Int) + 1 ≤ (s.size : Int) := by omega
            have hx3 : ((a : Int) + 1).toNat = a + 1 := by omega
            have hqs : Q.size ≤ 4000 := by rw [← HQ.out, ByteArray.size_extract]; omega
            have hxs : (s.extract a (a + 1)).size ≤ 4000 := by rw [ByteArray.size_extract]; omega
            have hqm : ¬ maxLen < Q.size + (s.extract a (a + 1)).size := by unfold maxLen; omega
            have hqm2 : Q.size + (s.extract a (a + 1)).size ≤ 9223372036854775807 := by omega
            clear HPC HBY
            go_wp2_with fail
            go_roundw
            case rel => exact ⟨k, a + 1, t, acc, _, rfl, by omega, by omega, by omega, hal, by rw [HQ2.out], by go_num, HZ2, HD⟩
            case measure => simp [lonIntOf]; omega
          · have h6I : ¬ (n : Int) < 6 := by omega
            have HZ2 := hid (HPC.out h6)
            have HE : Hid ((⟨#[]⟩ : ByteArray) = s.extract (a + n) (a + n)) := by
              show _ = _
              exact (do_zero (by rw [ByteArray.size_extract]; omega)).symm
            clear HPC HBY
            by_cases hq0 : Q.size = 0
            · have hQe := do_zero hq0
              rw [wDat_no hq0] at HZ2
              subst hQe
              clear hq0
              go_wp2_with (at_builtin; (refine wpList_append_own _ rfl _ _ 28 rfl w.heap.size 39 i0 _ 3 32 Try.underlying28 hi hz0 hz1 hz2 rfl (by decide) _ _ _ rfl (HD.out.own.alloc _) ⟨wr.heap.size, 0, none⟩ 1 1 [_, _, _] rfl rfl (cell_three_at rfl) ?c2 ?c3 ?c4 ?c5 ?_))
              case c2 => first | exact three_one _ _ _ | exact ⟨rfl, rfl⟩ | simp [Value.oneCell']
              case c3 => unfold maxLen; omega
              case c4 => omega
              case c5 => have := HD.out.below.size; first | omega | (rw [World.size_alloc]; omega)
              intro v' w4 hown' hgrow _
              have HD4 := hid (HD.out.put (p := ⟨(D : Int), (n : Int), ⟨#[]⟩⟩) _ hown' hgrow)
              clear hown' hgrow HD
              go_wp2_with fail
              go_roundw
              case rel => exact ⟨k, a + n, a + n, _, _, rfl, by omega, by omega, by omega, by simp; omega, by rw [← HE.out], by go_num, HZ2, HD4⟩
              case measure => simp [lonIntOf]; omega
            · have hQe := do_ne (d := Q) (by omega)
              rw [wDat_yes hq0] at HZ2
              clear hq0
              go_wp2_with (at_builtin; (refine wpList_append_own _ rfl _ _ 28 rfl w.heap.size 39 i0 _ 3 32 Try.underlying28 hi hz0 hz1 hz2 rfl (by decide) _ _ _ rfl (HD.out.own.alloc _) ⟨wr.heap.size, 0, none⟩ 1 1 [_, _, _] rfl rfl (cell_three_at rfl) ?c2 ?c3 ?c4 ?c5 ?_))
              case c2 => first | exact three_one _ _ _ | exact ⟨rfl, rfl⟩ | simp [Value.oneCell']
              case c3 => unfold maxLen; omega
              case c4 => omega
              case c5 => have := HD.out.below.size; first | omega | (rw [World.size_alloc]; omega)
              intro v' w4 hown' hgrow _
              have HD4 := hid (HD.out.put (p := ⟨0, 0, Q⟩) _ hown' hgrow)
              have hl4 : (acc ++ [(⟨0, 0, Q⟩ : PcI)]).length = acc.length + 1 := by simp
              clear hown' hgrow HD
              go_wp2_with (at_builtin; (refine wpList_append_own _ rfl _ _ 28 rfl w.heap.size 39 i0 _ 3 32 Try.underlying28 hi hz0 hz1 hz2 rfl (by decide) _ _ _ rfl (HD4.out.own.alloc _) ⟨w4.heap.size, 0, none⟩ 1 1 [_, _, _] rfl rfl (cell_three_at rfl) ?c2 ?c3 ?c4 ?c5 ?_))
              case c2 => first | exact three_one _ _ _ | exact ⟨rfl, rfl⟩ | simp [Value.oneCell']
              case c3 => unfold maxLen; omega
              case c4 => omega
              case c5 => have := HD4.out.below.size; first | omega | (rw [World.size_alloc]; omega)
              intro v'' w5 hown' hgrow _
              have HD5 := hid (HD4.out.put (p := ⟨(D : Int), (n : Int), ⟨#[]⟩⟩) _ (by rw [hl4]; exact hown') hgrow)
              clear hown' hgrow HD4
              go_wp2_with fail
              go_roundw
              case rel => exact ⟨k, a + n, a + n, _, _, rfl, by omega, by omega, by omega, by simp; omega, by rw [← HE.out], by go_num, HZ2, HD5⟩
              case measure => simp [lonIntOf]; omega
    · obtain rfl : a = s.size := by omega
      have hze : Z = wDat acc (s.extract t s.size) := by rw [HZ.out, dl_end hlt]
      generalize hQ : s.extract t s.size = Q at hze ⊢
      clear HZ
      by_cases hq0 : Q.size = 0
      · have hQe := do_zero hq0
        rw [wDat_no hq0] at hze
        subst hze
        obtain ⟨ra, rc, rfl⟩ := own3_slice HD.out.own
        subst hQe
        clear hq0 hQ
        by_cases h5 : 500 < Z.length
        · have h5I : (500 : Int) < (Z.length : Int) := by omega
          obtain rfl := HAN.out h5
          go_wp2_with fail
          go_ret2
          exact do_nil HD.out.below
        · have h5I : ¬ (500 : Int) < (Z.length : Int) := by omega
          obtain rfl := HAY.out h5
          go_wp2_with fail
          go_ret2
          exact ⟨⟨_, rfl, HD.out.own⟩, HD.out.below⟩
      · have hQe := do_ne (d := Q) (by omega)
        rw [wDat_yes hq0] at hze
        have hzl : Z.length = acc.length + 1 := by rw [hze]; simp
        clear hq0 hQ
        go_wp2_with (at_builtin; (refine wpList_append_own _ rfl _ _ 28 rfl w.heap.size 39 i0 _ 3 32 Try.underlying28 hi hz0 hz1 hz2 rfl (by decide) _ _ _ rfl (HD.out.own.alloc _) ⟨wr.heap.size, 0, none⟩ 1 1 [_, _, _] rfl rfl (cell_three_at rfl) ?c2 ?c3 ?c4 ?c5 ?_))
        case c2 => first | exact three_one _ _ _ | exact ⟨rfl, rfl⟩ | simp [Value.oneCell']
        case c3 => unfold maxLen; omega
        case c4 => omega
        case c5 => have := HD.out.below.size; first | omega | (rw [World.size_alloc]; omega)
        intro v' w4 hown' hgrow _
        have HD4 := hid (HD.out.put (p := ⟨0, 0, Q⟩) _ hown' hgrow)
        rw [← hze] at HD4
        clear hown' hgrow HD hze
        obtain ⟨ra, rc, rfl⟩ := own3_slice HD4.out.own
        by_cases h5 : 500 < Z.length
        · have h5I : (500 : Int) < (Z.length : Int) := by omega
          obtain rfl := HAN.out h5
          clear hzl
          go_wp2_with fail
          go_ret2
          exact do_nil HD4.out.below
        · have h5I : ¬ (500 : Int) < (Z.length : Int) := by omega
          obtain rfl := HAY.out h5
          clear hzl
          go_wp2_with fail
          go_ret2
          exact ⟨⟨_, rfl, HD4.out.own⟩, HD4.out.below⟩
theorem sdos_big (o s : ByteArray) (w : World) (h : 4000 < o.size ∨ 4000 < s.size) (ho : o.size ≤ 1048576) (hs : s.size ≤ 1048576) :
    Calls Try.prog 12 #[.string o, .string s] w fun e w' => DoPost w (doD o s) e w' := by
  have e : doD o s = none := by unfold doD; rw [if_pos h]
  rw [e]
  by_cases h1 : 4000 < o.size
  · have h1I : (4000 : Int) < (o.size : Int) := by omega
    clear h e
    go_enter Try.func12, Try.ntmps12
    go_wp2_with fail
    go_ret2
    exact do_nil (Below.refl _ _)
  · have h1I : ¬ (4000 : Int) < (o.size : Int) := by omega
    have h2I : (4000 : Int) < (s.size : Int) := by omega
    clear h e
    go_enter Try.func12, Try.ntmps12
    go_wp2_with fail
    go_ret2
    exact do_nil (Below.refl _ _)
theorem sdos_any (o s : ByteArray) (w : World) (ho : o.size ≤ 1048576) (hs : s.size ≤ 1048576) :
    Calls Try.prog 12 #[.string o, .string s] w fun e w' => DoPost w (doD o s) e w' := by
  by_cases h : 4000 < o.size ∨ 4000 < s.size
  · exact sdos_big o s w h ho hs
  · exact sdo_go o s w (by omega) (by omega)
end Go.Proofs.Ytibciflmalfbjaa
