/-
  The specification's files: one that is put, one that is gone.
-/
import Derived.Test.YtanlggglbpibfaaSfB
import Derived.Laws.Rows
import Derived.Lib.Hide
namespace Go.Proofs.Ytanlggglbpibfaa
open Go.RowKit
set_option linter.unusedVariables false
set_option linter.unusedSimpArgs false
theorem own2_len {w : World} {B n : Nat} {v : Value} {xs : List Value} (h : w.ownsRow B 88 2 v n xs) : True := trivial
theorem cutF_len (L : List FlI) (s : ByteArray) : (cutF L s).length ≤ L.length := by
  induction L with
  | nil => exact Nat.le_refl _
  | cons g L ih => unfold cutF; split <;> simp <;> omega
theorem putF_len (L : List FlI) (s d : ByteArray) : (putF L s d).length ≤ L.length + 1 := by
  induction L with
  | nil => exact Nat.le_refl _
  | cons g L ih =>
    unfold putF
    split
    · simp; omega
    · split <;> simp
theorem take_mem {L : List FlI} {i : Nat} {f : FlI} (h : f ∈ L.take i) : ∃ j, j < i ∧ j < L.length ∧ flF L j = f := by
  obtain ⟨j, hj, rfl⟩ := List.mem_iff_getElem.1 h
  rw [List.length_take] at hj
  exact ⟨j, by omega, by omega, by rw [flF_at (by omega), List.getElem_take]⟩
/-- a call answers a list of files in a row of its own -/
def FlAns (w : World) (M : List FlI) (e : Ending) (w' : World) : Prop := ∃ v, e = .returned v ∧ FlW w.heap.size w w' v M
set_option maxRecDepth 100000 in
set_option maxHeartbeats 1500000 in
theorem scut_any (v : Value) (L : List FlI) (s : ByteArray) (w : World) (hL : FlLe L) (h : FlArg w v L.length (flF L)) :
    Calls Try.prog 82 #[v, .string s] w (FlAns w (cutF L s)) := by
  obtain ⟨a, c, rfl, hr⟩ := h
  obtain ⟨n, hn⟩ : ∃ n, n = L.length := ⟨_, rfl⟩
  rw [← hn] at hr ⊢
  have hnJ : (n : Int) ≤ 1100000 := by have := hL.len; omega
  have HN : Hid (n = L.length) := hn
  have HR : Hid (∀ w', Below w.heap.size w w' → 0 < n → ∃ g, a = some ⟨g, 0, none⟩ ∧ FlRow w' g n (flF L)) := fun w' hb h0 => by
    obtain ⟨g, h1, h2⟩ := hr h0
    exact ⟨g, h1, h2.below hb h2.lt⟩
  have HS0 := hidF (FlW.made w)
  obtain ⟨i0, hi0, hz0, hz1, hz2⟩ := info_parts Try.infFl
  clear hr hL hn
  go_enter Try.func82, Try.ntmps82
  go_wp2_with fail
  generalize w.alloc (.cells #[] 88) = W1 at HS0 ⊢
  go_loopw [5, 6] (fun x y wr => ∃ (i : Nat) (u : Value), i ≤ n ∧ x = u ∧ y = .int .i64 (i : Int) ∧ Hid (FlW w.heap.size w wr u (cutF (L.take i) s))) (fun _ y _ => n - (intFl y).toNat)
  case atStart => exact ⟨0, _, by omega, rfl, rfl, HS0⟩
  case round =>
    clear HS0
    rename World => W0
    obtain ⟨i, u, hi, rfl, rfl, HT⟩ := hrel
    by_cases hlt : i < n
    · have hltI : (i : Int) < (n : Int) := by omega
      have hin : i < L.length := by rw [← HN.out]; exact hlt
      obtain ⟨g, rfl, hrow⟩ := HR.out _ HT.out.bel (by omega)
      obtain ⟨q, hq⟩ : ∃ q, q = 2 * i := ⟨_, rfl⟩
      have x0 := hrow.c0 i hlt
      have x1 := hrow.c1 i hlt
      rw [← hq] at x0 x1
      have hiq : i * 2 = q := by omega
      have hm9 : (cutF (L.take i) s).length ≤ 1100000 := by have h1 := cutF_len (L.take i) s; rw [List.length_take] at h1; omega
      have hs9 := HT.out.bel.size
      have HTS : Hid (cutF (L.take (i + 1)) s = cutF (L.take i) s ++ cutF [flF L i] s) := by show _ = _; rw [take_snoc hin, cutF_app]
      have HIN := hidF hlt
      generalize flF L i = f at x0 x1 HTS
      obtain ⟨fa, fd⟩ := f
      simp only at x0 x1 HTS
      generalize cutF (L.take i) s = M at HT HTS hm9
      clear hrow hq hin
      by_cases he : fa = s
      · subst he
        have HM : Hid (cutF (L.take (i + 1)) fa = M) := by show _ = _; rw [HTS.out]; simp [cutF]
        clear HTS
        go_wp2_with fail
        go_roundw
        case rel => exact ⟨i + 1, _, by have := HIN.out; omega, rfl, by go_num, by rw [HM.out]; exact HT⟩
        case measure => simp [intFl]; have := HIN.out; omega
      · have hb := beqF_no he
        have HM : Hid (cutF (L.take (i + 1)) s = M ++ [⟨fa, fd⟩]) := by show _ = _; rw [HTS.out]; simp [cutF, he]
        clear HTS he
        go_wp2_with (at_builtin; (refine wpList_append_own _ rfl _ _ 24 rfl w.heap.size 88 i0 _ 2 32 Try.underlying24 hi0 hz0 hz1 hz2 rfl (by decide) _ _ _ rfl (World.ownsRow.alloc HT.out.own _) ⟨W0.heap.size, 0, none⟩ 1 1 [.string fa, .string fd] rfl rfl (cell_twoF rfl) (two_fl _ _) ?k3 ?k4 ?k5 ?_))
        case k3 => unfold maxLen; omega
        case k4 => omega
        case k5 => first | omega | (rw [World.size_alloc]; omega) | (simp; omega)
        intro H6v H6w hown' hgrow _
        have H6 := hidF (HT.out.one (a := fa) (d := fd) hown' hgrow)
        clear hown' hgrow x0 x1 hb HT hm9 hs9
        go_wp2_with fail
        go_roundw
        case rel => exact ⟨i + 1, _, by have := HIN.out; omega, rfl, by go_num, by rw [HM.out]; exact H6⟩
        case measure => simp [intFl]; have := HIN.out; omega
    · obtain rfl : i = n := by omega
      have HM : Hid (cutF (L.take i) s = cutF L s) := by show _ = _; rw [HN.out, List.take_length]
      go_wp2_with fail
      go_ret
      exact ⟨_, rfl, by rw [← HM.out]; exact HT.out⟩
/-- the first i behind what is put -/
def putS (L : List FlI) (s d : ByteArray) (i : Nat) (b : Bool) (M : List FlI) : Prop := (b = false ∧ M = L.take i ∧ ∀ j, j < i → fnL (flF L j).a s) ∨ (b = true ∧ M = putF (L.take i) s d ∧ ∃ j, j < i ∧ ¬ fnL (flF L j).a s)
set_option maxRecDepth 100000 in
set_option maxHeartbeats 2500000 in
theorem sput_any (v : Value) (L : List FlI) (s d : ByteArray) (w : World) (hL : FlLe L) (hrise : riseF L) (h : FlArg w v L.length (flF L)) :
    Calls Try.prog 81 #[v, .string s, .string d] w (FlAns w (putF L s d)) := by
  obtain ⟨a, c, rfl, hr⟩ := h
  obtain ⟨n, hn⟩ : ∃ n, n = L.length := ⟨_, rfl⟩
  rw [← hn] at hr ⊢
  have hnJ : (n : Int) ≤ 1100000 := by have := hL.len; omega
  have HN : Hid (n = L.length) := hn
  have HR : Hid (∀ w', Below w.heap.size w w' → 0 < n → ∃ g, a = some ⟨g, 0, none⟩ ∧ FlRow w' g n (flF L)) := fun w' hb h0 => by
    obtain ⟨g, h1, h2⟩ := hr h0
    exact ⟨g, h1, h2.below hb h2.lt⟩
  have HRI := hidF hrise
  have HS0 := hidF (FlW.made w)
  have HP0 : Hid (putS L s d 0 false []) := Or.inl ⟨rfl, rfl, fun j hj => absurd hj (by omega)⟩
  obtain ⟨i0, hi0, hz0, hz1, hz2⟩ := info_parts Try.infFl
  clear hr hL hn hrise
  go_enter Try.func81, Try.ntmps81
  go_wp2_with fail
  generalize w.alloc (.cells #[] 88) = W1 at HS0 ⊢
  go_loopw [7, 8, 9] (fun x b y wr => ∃ (i : Nat) (u : Value) (bb : Bool) (M : List FlI), i ≤ n ∧ x = u ∧ b = .bool bb ∧ y = .int .i64 (i : Int) ∧ M.length ≤ i + 1 ∧ Hid (putS L s d i bb M) ∧ Hid (FlW w.heap.size w wr u M)) (fun _ _ y _ => n - (intFl y).toNat)
  case atStart => exact ⟨0, _, false, [], by omega, rfl, rfl, rfl, by simp, HP0, HS0⟩
  case round =>
    clear HS0 HP0
    rename World => W0
    obtain ⟨i, u, bb, M, hi, rfl, rfl, rfl, hMl, HP, HT⟩ := hrel
    by_cases hlt : i < n
    · have hltI : (i : Int) < (n : Int) := by omega
      have hin : i < L.length := by rw [← HN.out]; exact hlt
      obtain ⟨g, rfl, hrow⟩ := HR.out _ HT.out.bel (by omega)
      obtain ⟨q, hq⟩ : ∃ q, q = 2 * i := ⟨_, rfl⟩
      have x0 := hrow.c0 i hlt
      have x1 := hrow.c1 i hlt
      rw [← hq] at x0 x1
      have hiq : i * 2 = q := by omega
      have HRW : Hid (∀ w', Below w.heap.size w w' → w'.cell? ⟨g, q, none⟩ = some (.string (flF L i).a) ∧ w'.cell? ⟨g, q + 1, none⟩ = some (.string (flF L i).d)) := fun w' hb => by
        obtain ⟨g2, e, h2⟩ := HR.out _ hb (by omega)
        cases e
        rw [hq]
        exact ⟨h2.c0 i hlt, h2.c1 i hlt⟩
      have hs9 := HT.out.bel.size
      have HIN := hidF hlt
      have HNB : Hid (∀ j, j < i → fnL (flF L j).a (flF L i).a) := fun j hj => rise_at HRI.out hj hin
      have HTS : Hid (L.take (i + 1) = L.take i ++ [flF L i]) := take_snoc hin
      have HTM : Hid (∀ x ∈ L.take i, ∃ j, j < i ∧ flF L j = x) := fun x hx => by obtain ⟨j, h1, _, h3⟩ := take_mem hx; exact ⟨j, h1, h3⟩
      have HMT : Hid (∀ j, j < i → flF L j ∈ L.take i) := fun j hj => by rw [flF_at (by omega)]; exact List.mem_take_iff_getElem.2 ⟨j, by omega, rfl⟩
      have HLW : Hid (∀ j, j < i → fnL (flF L j).a s) → fnL (flF L i).a s → ∀ j, j < i + 1 → fnL (flF L j).a s := fun h h2 j hj => by
        by_cases e : j = i
        · subst e; exact h2
        · exact h.out j (by omega)
      have HLW := hidF HLW
      have HSE : Hid (¬ fnL (flF L i).a s → ∃ j, j < i + 1 ∧ ¬ fnL (flF L j).a s) := fun h => ⟨i, by omega, h⟩
      generalize flF L i = f at x0 x1 HTS HRW HNB HLW HSE
      obtain ⟨fa, fd⟩ := f
      simp only at x0 x1 HTS HRW HNB HLW HSE
      clear hrow hq hin
      cases bb with
      | true =>
        obtain ⟨hM, j, hj, hjs⟩ : M = putF (L.take i) s d ∧ ∃ j, j < i ∧ ¬ fnL (flF L j).a s := by
          rcases HP.out with ⟨c, _⟩ | ⟨_, h1, h2⟩
          · cases c
          · exact ⟨h1, h2⟩
        have hne : fa ≠ s := fun c => hjs (by rw [← c]; exact HNB.out j hj)
        have hb := beqF_no hne
        have HP2 : Hid (putS L s d (i + 1) true (M ++ [⟨fa, fd⟩])) := Or.inr ⟨rfl, by rw [HTS.out, putF_snoc ⟨_, HMT.out j hj, hjs⟩, hM], j, by omega, hjs⟩
        clear hM hjs hj j hne HP HTS
        go_wp2_with (at_builtin; (refine wpList_append_own _ rfl _ _ 24 rfl w.heap.size 88 i0 _ 2 32 Try.underlying24 hi0 hz0 hz1 hz2 rfl (by decide) _ _ _ rfl (World.ownsRow.alloc HT.out.own _) ⟨W0.heap.size, 0, none⟩ 1 1 [.string fa, .string fd] rfl rfl (cell_twoF rfl) (two_fl _ _) ?k3 ?k4 ?k5 ?_))
        case k3 => unfold maxLen; omega
        case k4 => omega
        case k5 => first | omega | (rw [World.size_alloc]; omega) | (simp; omega)
        intro H6v H6w hown' hgrow _
        have H6 := hidF (HT.out.one (a := fa) (d := fd) hown' hgrow)
        clear hown' hgrow x0 x1 hb HT hs9
        go_wp2_with fail
        go_roundw
        case rel => exact ⟨i + 1, _, true, _, by have := HIN.out; omega, rfl, rfl, by go_num, by simp; omega, HP2, H6⟩
        case measure => simp [intFl]; have := HIN.out; omega
      | false =>
        obtain ⟨hM, hlow⟩ : M = L.take i ∧ ∀ j, j < i → fnL (flF L j).a s := by
          rcases HP.out with ⟨_, h1, h2⟩ | ⟨c, _⟩
          · exact ⟨h1, h2⟩
          · cases c
        have hMi : M.length ≤ i := by rw [hM, List.length_take]; omega
        by_cases hfn : fnL fa s
        · have hb1 := blF_yes hfn
          have hb2 := beqF_no (fnL_ne hfn)
          have HP2 : Hid (putS L s d (i + 1) false (M ++ [⟨fa, fd⟩])) := Or.inl ⟨rfl, by rw [HTS.out, hM], HLW.out hlow hfn⟩
          clear hM hlow hfn HP HTS
          go_wp2_with (at_builtin; (refine wpList_append_own _ rfl _ _ 24 rfl w.heap.size 88 i0 _ 2 32 Try.underlying24 hi0 hz0 hz1 hz2 rfl (by decide) _ _ _ rfl (World.ownsRow.alloc HT.out.own _) ⟨W0.heap.size, 0, none⟩ 1 1 [.string fa, .string fd] rfl rfl (cell_twoF rfl) (two_fl _ _) ?k3 ?k4 ?k5 ?_))
          case k3 => unfold maxLen; omega
          case k4 => omega
          case k5 => first | omega | (rw [World.size_alloc]; omega) | (simp; omega)
          intro H6v H6w hown' hgrow _
          have H6 := hidF (HT.out.one (a := fa) (d := fd) hown' hgrow)
          clear hown' hgrow x0 x1 hb1 hb2 HT hs9
          go_wp2_with fail
          go_roundw
          case rel => exact ⟨i + 1, _, false, _, by have := HIN.out; omega, rfl, rfl, by go_num, by simp; omega, HP2, H6⟩
          case measure => simp [intFl]; have := HIN.out; omega
        · have hb1 := blF_no hfn
          have HPX : Hid (putF (L.take (i + 1)) s d = M ++ [⟨s, d⟩] ++ (if fa = s then [] else [⟨fa, fd⟩])) := by
            show _ = _
            rw [HTS.out, putF_hit (fun x hx => by obtain ⟨j, h1, h2⟩ := HTM.out x hx; rw [← h2]; exact hlow j h1) hfn, hM]
          have HSX := hidF (HSE.out hfn)
          clear hM hlow hfn HP HTS
          have HXX := hidF (show x0 = x0 from rfl)
          clear HXX
          go_wp2_with (at_builtin; (refine wpList_append_own _ rfl _ _ 24 rfl w.heap.size 88 i0 _ 2 32 Try.underlying24 hi0 hz0 hz1 hz2 rfl (by decide) _ _ _ rfl (World.ownsRow.alloc HT.out.own _) ⟨W0.heap.size, 0, none⟩ 1 1 [.string s, .string d] rfl rfl (cell_twoF rfl) (two_fl _ _) ?k3 ?k4 ?k5 ?_))
          case k3 => unfold maxLen; omega
          case k4 => omega
          case k5 => first | omega | (rw [World.size_alloc]; omega) | (simp; omega)
          intro H6v H6w hown' hgrow _
          have H6 := hidF (HT.out.one (a := s) (d := d) hown' hgrow)
          clear hown' hgrow x0 x1 hb1 HT hs9
          obtain ⟨x0, x1⟩ := HRW.out _ H6.out.bel
          have hs9 := H6.out.bel.size
          have hl6 : (M ++ [(⟨s, d⟩ : FlI)]).length ≤ M.length + 1 := by simp
          by_cases he : fa = s
          · subst he
            have HP2 : Hid (putS L fa d (i + 1) true (M ++ [⟨fa, d⟩])) := Or.inr ⟨rfl, by rw [HPX.out]; simp, HSX.out⟩
            clear HPX HSX
            go_wp2_with fail
            go_roundw
            case rel => exact ⟨i + 1, _, true, _, by have := HIN.out; omega, rfl, rfl, by go_num, by simp; omega, HP2, H6⟩
            case measure => simp [intFl]; have := HIN.out; omega
          · have hb := beqF_no he
            have HP2 : Hid (putS L s d (i + 1) true (M ++ [⟨s, d⟩] ++ [⟨fa, fd⟩])) := Or.inr ⟨rfl, by rw [HPX.out, if_neg he], HSX.out⟩
            clear HPX HSX he
            generalize M ++ [(⟨s, d⟩ : FlI)] = M6 at H6 HP2 hl6
            go_wp2_with (at_builtin; (refine wpList_append_own _ rfl _ _ 24 rfl w.heap.size 88 i0 _ 2 32 Try.underlying24 hi0 hz0 hz1 hz2 rfl (by decide) _ _ _ rfl (World.ownsRow.alloc H6.out.own _) ⟨H6w.heap.size, 0, none⟩ 1 1 [.string fa, .string fd] rfl rfl (cell_twoF rfl) (two_fl _ _) ?k3 ?k4 ?k5 ?_))
            case k3 => unfold maxLen; omega
            case k4 => omega
            case k5 => first | omega | (rw [World.size_alloc]; omega) | (simp; omega)
            intro H7v H7w hown' hgrow _
            have H7 := hidF (H6.out.one (a := fa) (d := fd) hown' hgrow)
            clear hown' hgrow x0 x1 hb H6 hs9
            go_wp2_with fail
            go_roundw
            case rel => exact ⟨i + 1, _, true, _, by have := HIN.out; omega, rfl, rfl, by go_num, by simp; omega, HP2, H7⟩
            case measure => simp [intFl]; have := HIN.out; omega
    · obtain rfl : i = n := by omega
      have hs9 := HT.out.bel.size
      have HTK : Hid (L.take i = L) := by show _ = _; rw [HN.out, List.take_length]
      cases bb with
      | true =>
        have HM : Hid (M = putF L s d) := by
          rcases HP.out with ⟨c, _⟩ | ⟨_, h1, h2⟩
          · cases c
          · rw [HTK.out] at h1; exact h1
        go_wp2_with fail
        go_ret
        exact ⟨_, rfl, by rw [← HM.out]; exact HT.out⟩
      | false =>
        have HM : Hid (M ++ [⟨s, d⟩] = putF L s d) := by
          rcases HP.out with ⟨_, h1, h2⟩ | ⟨c, _⟩
          · show _ = _
            rw [HTK.out] at h1
            rw [putF_below, h1]
            intro f hf
            obtain ⟨j, hj, rfl⟩ := List.mem_iff_getElem.1 hf
            have := h2 j (by rw [HN.out]; exact hj)
            rwa [flF_at hj] at this
          · cases c
        go_wp2_with (at_builtin; (refine wpList_append_own _ rfl _ _ 24 rfl w.heap.size 88 i0 _ 2 32 Try.underlying24 hi0 hz0 hz1 hz2 rfl (by decide) _ _ _ rfl (World.ownsRow.alloc HT.out.own _) ⟨W0.heap.size, 0, none⟩ 1 1 [.string s, .string d] rfl rfl (cell_twoF rfl) (two_fl _ _) ?k3 ?k4 ?k5 ?_))
        case k3 => unfold maxLen; omega
        case k4 => omega
        case k5 => first | omega | (rw [World.size_alloc]; omega) | (simp; omega)
        intro H6v H6w hown' hgrow _
        have H6 := hidF (HT.out.one (a := s) (d := d) hown' hgrow)
        clear hown' hgrow HT hs9
        go_wp2_with fail
        go_ret
        exact ⟨_, rfl, by rw [← HM.out]; exact H6.out⟩
end Go.Proofs.Ytanlggglbpibfaa
