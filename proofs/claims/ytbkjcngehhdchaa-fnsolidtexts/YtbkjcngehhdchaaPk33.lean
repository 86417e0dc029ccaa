/-
  Several texts of this seat as one: XtC.
-/
import Derived.Test.YtbkjcngehhdchaaPk32

/-!   One member by its name: what both answer, and the code's walk. -/
namespace Go.Proofs.Ytbkjcngehhdchaa
open Go.RowKit
set_option linter.unusedVariables false
set_option linter.unusedSimpArgs false
theorem rdS_some {s : ByteArray} {L : List MbI} (hs : s.size ≤ 1048576) (h : rdS s = some L) : mbR (mbF L) L.length ∧ MbLe (mbF L) L.length := by
  cases h0 : numI s with
  | none => rw [rdS_no1 h0] at h; cases h
  | some q =>
    obtain ⟨n, r⟩ := q
    have hrb := (numI_bd h0).2
    by_cases hn : n ≤ 60
    · cases h1 : naI r n with
      | none => rw [rdS_no3 h0 h1] at h; cases h
      | some q =>
        obtain ⟨L0, r1⟩ := q
        have hl := (naI_bd h1).1
        cases h2 : datI r1 with
        | none => rw [rdS_no4 h0 h1 h2] at h; cases h
        | some q =>
          obtain ⟨p, t⟩ := q
          cases h3 : unp p with
          | none => rw [rdS_no5 h0 h1 h2 h3] at h; cases h
          | some d =>
            by_cases h4 : sumB d = t ∧ szS L0 n = d.size ∧ mbR (mbF (mL L0 d)) n
            · rw [rdS_yes h0 hn h1 h2 h3 h4] at h
              cases h
              have hd := (unp_some h3).1
              rw [mL_len, hl]
              exact ⟨h4.2.2, mL_le (by omega) h1 hn (by have := h4.2.1; omega)⟩
            · rw [rdS_no6 h0 h1 h2 h3 h4] at h; cases h
    · rw [rdS_no2 h0 (by omega)] at h; cases h
noncomputable def xtD (s nm : ByteArray) : Option ByteArray := open Classical in match rdS s with
  | none => none
  | some L => if h : ∃ i, i < L.length ∧ (mbF L i).a = nm then some (mbF L (Classical.choose h)).d else none
theorem xtD_none {s nm : ByteArray} (h : rdS s = none) : xtD s nm = none := by unfold xtD; rw [h]
theorem xtD_no {s nm : ByteArray} {L : List MbI} (h : rdS s = some L) (h1 : ∀ i, i < L.length → (mbF L i).a ≠ nm) : xtD s nm = none := by
  unfold xtD
  rw [h]
  exact dif_neg (fun ⟨i, hi, hc⟩ => h1 i hi hc)
theorem xtD_yes {s nm : ByteArray} {L : List MbI} {i : Nat} (h : rdS s = some L) (hu : mbU (mbF L) L.length) (hi : i < L.length) (ha : (mbF L i).a = nm) : xtD s nm = some (mbF L i).d := by
  unfold xtD
  rw [h]
  have hx : ∃ i, i < L.length ∧ (mbF L i).a = nm := ⟨i, hi, ha⟩
  have hc := Classical.choose_spec hx
  have e : Classical.choose hx = i := by
    rcases Nat.lt_trichotomy (Classical.choose hx) i with q | q | q
    · exact absurd (hc.2.trans ha.symm) (hu _ _ q hi)
    · exact q
    · exact absurd (ha.trans hc.2.symm) (hu _ _ q hc.1)
  show (if h : ∃ i, i < L.length ∧ (mbF L i).a = nm then some (mbF L (Classical.choose h)).d else none) = _
  rw [dif_pos hx, e]
set_option maxRecDepth 100000 in
set_option maxHeartbeats 4000000 in
theorem xt_any (s nm : ByteArray) (w : World) (hs : s.size ≤ 1048576) (hm : nm.size ≤ 1048576) :
    Calls Try.prog 18 #[.string s, .string nm] w fun e w' => e = .returned (upAns (xtD s nm)) ∧ Below w.heap.size w w' := by
  have HA : Hid (∀ w, Calls Try.prog 14 #[.string s] w fun e w' => RsPost w (rdS s) e w') := fun w => rs_any s w hs
  cases hr : rdS s with
  | none =>
    rw [hr] at HA
    rw [xtD_none hr]
    have HA2 : Hid (∀ w, Calls Try.prog 14 #[.string s] w fun e w' => (∃ v, e = .returned (.tuple #[v, .bool false])) ∧ Below w.heap.size w w') := fun w => (HA.out w).mono (fun e w' h => by obtain ⟨⟨v, h1, _⟩, h2⟩ := h; exact ⟨⟨v, h1⟩, h2⟩)
    clear HA hr
    go_enter Try.func18, Try.ntmps18
    go_wp2_with fail
    refine (HA2.out _).mono ?_
    rintro e w1 ⟨⟨v, rfl⟩, hb1⟩
    go_wp2_with fail
    go_ret2
    exact ⟨rfl, hb1⟩
  | some L =>
    rw [hr] at HA
    have hq := rdS_some hs hr
    have HA2 : Hid (∀ w, Calls Try.prog 14 #[.string s] w fun e w' => (∃ v, e = .returned (.tuple #[v, .bool true]) ∧ MbArg w' v L.length (mbF L)) ∧ Below w.heap.size w w') := fun w => (HA.out w).mono (fun e w' h => by obtain ⟨⟨v, h1, h3⟩, h2⟩ := h; exact ⟨⟨v, h1, own2_arg h3⟩, h2⟩)
    have HP : Hid (∀ v w, MbArg w v L.length (mbF L) → Calls Try.prog 47 #[v] w fun e w' => e = .returned (.map (some w.heap.size)) ∧ MW (mbF L) L.length w w') := fun v w h => places_any v L.length (mbF L) w hq.2 h
    have HNO : Hid ((∀ i, i < L.length → (mbF L i).a ≠ nm) → xtD s nm = none) := xtD_no hr
    have HYE : Hid (∀ i, i < L.length → (mbF L i).a = nm → xtD s nm = some (mbF L i).d) := fun i => xtD_yes hr hq.1.2.2.2
    have HU : Hid (mbU (mbF L) L.length) := hq.1.2.2.2
    have HK : Hid (keyOf Try.prog 9 (.string nm) = some (.string nm.data.toList)) := WideMaps.keyOf_string_mk Try.underlying9 (by unfold maxLen; omega)
    obtain ⟨n, hn⟩ : ∃ n, n = L.length := ⟨_, rfl⟩
    have hn60 := hq.1.1
    rw [← hn] at HA2 HP HNO HYE HU hn60
    generalize xtD s nm = A at *
    generalize mbF L = F at *
    clear HA hr hq hn
    go_enter Try.func18, Try.ntmps18
    go_wp2_with fail
    refine (HA2.out _).mono ?_
    rintro e w1 ⟨⟨v, rfl, hv⟩, hb1⟩
    have HV := hid hv
    obtain ⟨a, c, rfl, hrow⟩ := hv
    have HROW := hid hrow
    clear hrow
    go_wp2_with fail
    refine (HP.out _ _ HV.out).mono ?_
    rintro e w2 ⟨rfl, HW⟩
    have HW := hid HW
    go_wp2_with (at_lookup; refine wpList_lookup_own_ok_int _ rfl _ _ 73 rfl 9 3 .i64 strK Try.underlying73 Try.underlying3 (zeroM _) w1.heap.size n (mbD F n) rfl HW.out.own _ _ rfl HK.out ?_; intro cc hat hwc; refine hold_goalM ?_)
    have HB : Hid (Below w.heap.size w w2) := blMb hb1 HW.out.below hb1.size
    by_cases hx : ∃ i, i < n ∧ (F i).a = nm
    · obtain ⟨i, hi, ha⟩ := hx
      have hkk : mbK (F i) = .string nm.data.toList := by unfold mbK; rw [ha]
      rw [mbD_yes n ⟨i, hi, hkk⟩]
      rw [mbD_at n hi hkk (fun j h1 h2 c => HU.out i j h1 h2 (by have := mbK_inj (hkk.trans c.symm); exact this))] at hat
      obtain rfl : (i : Int) = cc := by injection hat with h; injection h
      obtain ⟨g, rfl, hR⟩ := HROW.out (by omega)
      obtain ⟨q, hq⟩ : ∃ q, q = 2 * i := ⟨_, rfl⟩
      have hiq : i * 2 = q := by omega
      have x1 := (hR.below HW.out.below hR.lt).c1 i hi
      rw [← hq] at x1
      have HAA := hid (HYE.out i hi ha)
      have hiI : (i : Int) < (n : Int) := by omega
      generalize (F i).d = D at x1 HAA
      clear hat hwc hkk hR hq ha HW HROW HV HYE HNO hb1
      refine id ?_
      unfold Hid
      go_wp2_with fail
      go_ret2
      exact ⟨by rw [HAA.out]; rfl, HB.out⟩
    · rw [mbD_no n (fun i hi c => hx ⟨i, hi, by
        unfold mbK at c
        injection c with c
        cases hp : (F i).a; cases hq : nm
        rw [hp, hq] at c
        simp at c
        rw [c]⟩)]
      have HAA := hid (HNO.out (fun i hi c => hx ⟨i, hi, c⟩))
      clear hat hwc hx HW HROW HV HYE HNO hb1
      refine id ?_
      unfold Hid
      go_wp2_with fail
      go_ret2
      exact ⟨by rw [HAA.out]; rfl, HB.out⟩
set_option maxRecDepth 100000 in
set_option maxHeartbeats 4000000 in
theorem sxt_any (s nm : ByteArray) (w : World) (hs : s.size ≤ 1048576) (hm : nm.size ≤ 1048576) :
    Calls Try.prog 17 #[.string s, .string nm] w fun e w' => e = .returned (upAns (xtD s nm)) ∧ Below w.heap.size w w' := by
  have HA : Hid (∀ w, Calls Try.prog 13 #[.string s] w fun e w' => RsPost w (rdS s) e w') := fun w => srs_any s w hs
  cases hr : rdS s with
  | none =>
    rw [hr] at HA
    rw [xtD_none hr]
    have HA2 : Hid (∀ w, Calls Try.prog 13 #[.string s] w fun e w' => (∃ v, e = .returned (.tuple #[v, .bool false])) ∧ Below w.heap.size w w') := fun w => (HA.out w).mono (fun e w' h => by obtain ⟨⟨v, h1, _⟩, h2⟩ := h; exact ⟨⟨v, h1⟩, h2⟩)
    clear HA hr
    go_enter Try.func17, Try.ntmps17
    go_wp2_with fail
    refine (HA2.out _).mono ?_
    rintro e w1 ⟨⟨v, rfl⟩, hb1⟩
    go_wp2_with fail
    go_ret2
    exact ⟨rfl, hb1⟩
  | some L =>
    rw [hr] at HA
    have hq := rdS_some hs hr
    have HA2 : Hid (∀ w, Calls Try.prog 13 #[.string s] w fun e w' => (∃ v, e = .returned (.tuple #[v, .bool true]) ∧ MbArg w' v L.length (mbF L)) ∧ Below w.heap.size w w') := fun w => (HA.out w).mono (fun e w' h => by obtain ⟨⟨v, h1, h3⟩, h2⟩ := h; exact ⟨⟨v, h1, own2_arg h3⟩, h2⟩)
    have HNO : Hid ((∀ i, i < L.length → (mbF L i).a ≠ nm) → xtD s nm = none) := xtD_no hr
    have HYE : Hid (∀ i, i < L.length → (mbF L i).a = nm → xtD s nm = some (mbF L i).d) := fun i => xtD_yes hr hq.1.2.2.2
    obtain ⟨n, hn⟩ : ∃ n, n = L.length := ⟨_, rfl⟩
    have hn60 := hq.1.1
    rw [← hn] at HA2 HNO HYE hn60
    generalize xtD s nm = A at *
    generalize mbF L = F at *
    clear HA hr hq hn
    go_enter Try.func17, Try.ntmps17
    go_wp2_with fail
    refine (HA2.out _).mono ?_
    rintro e w1 ⟨⟨v, rfl, hv⟩, hb1⟩
    obtain ⟨a, c, rfl, hrow⟩ := hv
    have HROW := hid hrow
    have HB := hid hb1
    clear hrow hb1
    go_wp2_with fail
    go_loopw [8] (fun x wr => ∃ i : Nat, i ≤ n ∧ x = .int .i64 (i : Int) ∧ wr = w1 ∧ Hid (∀ j, j < i → (F j).a ≠ nm)) (fun x _ => n - (intMb x).toNat)
    case atStart => exact ⟨0, by omega, rfl, rfl, fun j hj => absurd hj (by omega)⟩
    case round =>
      obtain ⟨i, hi, rfl, rfl, HF⟩ := hrel
      by_cases hlt : i < n
      · have hltI : (i : Int) < (n : Int) := by omega
        obtain ⟨g, rfl, hR⟩ := HROW.out (by omega)
        obtain ⟨q, hq⟩ : ∃ q, q = 2 * i := ⟨_, rfl⟩
        have hiq : i * 2 = q := by omega
        have x0 := hR.c0 i hlt
        have x1 := hR.c1 i hlt
        rw [← hq] at x0 x1
        by_cases ha : (F i).a = nm
        · have HAA := hid (HYE.out i hlt ha)
          rw [ha] at x0
          generalize (F i).d = D at x1 HAA
          clear hR hq ha HROW HYE HNO HF
          go_wp2_with fail
          go_ret2
          exact ⟨by rw [HAA.out]; rfl, HB.out⟩
        · have HF2 : Hid (∀ j, j < i + 1 → (F j).a ≠ nm) := fun j hj => by
            by_cases e : j = i
            · subst e; exact ha
            · exact HF.out j (by omega)
          have hne : ((F i).a.toList == nm.toList) = false := by
            rw [beq_eq_false_iff_ne]
            intro c
            rw [Lib.toList_data, Lib.toList_data] at c
            exact ha (ByteArray.ext (Array.ext' c))
          generalize (F i).a = X at x0 hne
          generalize (F i).d = D at x1
          clear hR hq ha HF
          go_wp2_with fail
          go_roundw
          case rel => exact ⟨i + 1, by omega, by go_num, by first | rfl | trivial, HF2⟩
          case measure => simp [intMb]; omega
      · obtain rfl : n = i := by omega
        have HAA := hid (HNO.out HF.out)
        clear HROW HYE HNO HF
        go_wp2_with fail
        go_ret2
        exact ⟨by rw [HAA.out]; rfl, HB.out⟩
end Go.Proofs.Ytbkjcngehhdchaa
