/-
  Under: the specification's; both at whatever list.
-/
import Derived.Test.YtfegoldjejlcaaaDoorUnC
import Derived.Test.YtfegoldjejlcaaaDoorTrT
namespace Go.Proofs.YtfegoldjejlcaaaDoor
open Go.RowKit
set_option linter.unusedVariables false
set_option linter.unusedSimpArgs false
theorem unL_cut {s p : ByteArray} (h : s.size < p.size) (he : p.extract 0 s.size = s) (hc : p[s.size]'h = 47) : unL s.data.toList p.data.toList := by
  refine Or.inr ⟨p.data.toList.drop (s.size + 1), ?_⟩
  have h1 : s.data.toList = p.data.toList.take s.size := by
    have h2 := congrArg (fun x => x.data.toList) he
    simp only [ByteArray.data_extract, Array.toList_extract] at h2
    rw [← h2]
    simp [List.extract]
  have hl : s.size < p.data.toList.length := h
  have h3 : p.data.toList[s.size] = 47 := by rw [← hc]; rfl
  rw [h1, ← h3]
  have h4 : (List.take s.size p.data.toList) ++ p.data.toList[s.size] :: p.data.toList.drop (s.size + 1) = p.data.toList := by
    rw [List.getElem_cons_drop, List.take_append_drop]
  exact h4.symm
theorem unL_ne {s p : ByteArray} (h1 : p ≠ s) (h : unL s.data.toList p.data.toList) : ∃ h : s.size < p.size, p.extract 0 s.size = s ∧ p[s.size] = 47 := by
  rcases h with h | ⟨r, h⟩
  · exact absurd (ByteArray.ext (Array.ext' h)) h1
  · have hl : p.size = s.size + (r.length + 1) := by
      have := congrArg List.length h
      simpa using this
    refine ⟨by omega, ?_, ?_⟩
    · apply ByteArray.ext
      apply Array.ext'
      rw [ByteArray.data_extract, Array.toList_extract, h]
      have e : s.size = s.data.toList.length := rfl
      rw [e]
      simp [List.extract]
    · have hp : s.size < p.data.toList.length := by show s.size < p.size; omega
      have e0 : p[s.size]'(by omega) = p.data.toList[s.size] := rfl
      rw [e0]
      have e1 : p.data.toList[s.size]? = some 47 := by
        have e : s.size = s.data.toList.length := rfl
        rw [h, e, List.getElem?_append_right (Nat.le_refl _), Nat.sub_self]
        rfl
      rw [List.getElem?_eq_getElem hp] at e1
      exact Option.some.inj e1
structure UdW (w wr : World) (v : Value) (L : List NdI) : Prop where
  own : wr.ownsRow w.heap.size 30 4 v L.length (ndC L)
  bel : Below w.heap.size w wr
theorem UdW.call {w wr w' : World} {v : Value} {L : List NdI} (h : UdW w wr v L) (hb : Below wr.heap.size wr w') : UdW w w' v L := ⟨own_callK h.own hb, blNd h.bel hb h.bel.size⟩
set_option maxRecDepth 100000 in
set_option maxHeartbeats 8000000 in
theorem sund_go (g : Nat) (a : Option Addr) (c n : Nat) (F : Nat → NdI) (s : ByteArray) (w : World) (hF : NdLe F n) (hs : s.size ≤ 1048576) (hdF : ndR F n) (hra : 0 < n → a = some ⟨g, 0, none⟩ ∧ NdRow w g n F) :
    Calls Tryd.prog 13 #[.slice a n c, .string s] w fun e w' => (∃ v, e = .returned v ∧ w'.ownsRow w.heap.size 30 4 v (unA F n s).length (ndC (unA F n s))) ∧ Below w.heap.size w w' := by
  have HTA : Hid (∀ w', Below w.heap.size w w' → Calls Tryd.prog 20 #[.slice a n c] w' fun e w'' => e = .returned (.bool true) ∧ Below w'.heap.size w' w'') := fun w' hb => by
    have := streeOk_any _ n F w' hF ⟨a, c, rfl, fun h0 => ⟨g, (hra h0).1, (hra h0).2.below hb (hra h0).2.lt⟩⟩
    rw [ndB_yes hdF] at this
    exact this
  have HRA : Hid (∀ w', Below w.heap.size w w' → 0 < n → a = some ⟨g, 0, none⟩ ∧ NdRow w' g n F) := fun w' hb h0 => ⟨(hra h0).1, (hra h0).2.below hb (hra h0).2.lt⟩
  have HDF := hidT hdF
  have HFS : Hid (∀ i, i < n → (F i).p.size ≤ 1048576 ∧ (F i).d.size ≤ 1048576) := fun i hi => hF.s hi
  have hnI : (n : Int) ≤ 40 := by have := hdF.1; omega
  have HB0 : Hid (UdW w (w.alloc (.cells #[] 30)) (.slice (some ⟨w.heap.size, 0, none⟩) 0 0) []) := ⟨World.ownsRow_made (e := 30) (size := 4) w #[] 0 (Nat.le_refl _) (by unfold maxLen; omega) rfl, (Below.refl _ _).alloc (Nat.le_refl _) _⟩
  obtain ⟨i0, hi, hz0, hz1, hz2⟩ := info_parts Tryd.infNdG
  clear hra hdF hF
  go_enter Tryd.func13, Tryd.ntmps13
  go_wp2_with fail
  refine (HTA.out _ HB0.out.bel).mono ?_
  rintro e w1 ⟨rfl, hb1⟩
  have HB2 := hidT (HB0.out.call hb1)
  clear hb1 HB0 HTA
  go_wp2_with fail
  go_loopw [5, 6] (fun v x wr => ∃ (i : Nat) (u : Value), i ≤ n ∧ x = .int .i64 (i : Int) ∧ u = v ∧ Hid (UdW w wr u (uf F s i))) (fun _ x _ => n - (trI x).toNat)
  case atStart => exact ⟨0, _, Nat.zero_le _, rfl, rfl, HB2⟩
  case round =>
    clear HB2
    rename World => W0
    obtain ⟨i, v, hi2, rfl, rfl, CW⟩ := hrel
    by_cases hlt : i < n
    · have hltI : (i : Int) < (n : Int) := by omega
      have HLT := hidT hlt
      have HLEN : Hid ((uf F s i).length ≤ 40) := by
        have h1 := uf_len F s i
        show _ ≤ _
        omega
      obtain ⟨ea, hrow⟩ := HRA.out _ CW.out.bel (by omega)
      subst ea
      obtain ⟨q, hq⟩ : ∃ q, q = 4 * i := ⟨_, rfl⟩
      have hiq : i * 4 = q := by omega
      have HXA : Hid (∀ wd, Below w.heap.size w wd → wd.cell? ⟨g, q, none⟩ = some (.string (F i).p) ∧ wd.cell? ⟨g, q + 1, none⟩ = some (.bool (F i).r) ∧ wd.cell? ⟨g, q + 2, none⟩ = some (.int .i64 (F i).m) ∧ wd.cell? ⟨g, q + 3, none⟩ = some (.string (F i).d)) := fun wd hb => by
        have hr := (HRA.out wd hb (by omega)).2
        rw [hq]
        exact ⟨hr.c0 i hlt, hr.c1 i hlt, hr.c2 i hlt, hr.c3 i hlt⟩
      clear hq hrow
      have HSZ := hidT (HFS.out i hlt)
      obtain ⟨P, hP⟩ : ∃ P, P = F i := ⟨_, rfl⟩
      have HP := hidT hP
      rw [← hP] at HXA HSZ
      obtain ⟨pa, pr, pm, pd⟩ := P
      simp only at HXA HSZ
      clear hP hlt hi2
      by_cases hes : pa = s
      · subst hes
        have hb1 : (pa.toList == pa.toList) = true := by simp
        have HUF : Hid (uf F pa (i + 1) = uf F pa i ++ [⟨pa, pr, pm, pd⟩]) := by
          show _ = _
          rw [uf_yes (by rw [← HP.out]; exact Or.inl rfl), ← HP.out]
        obtain ⟨x0, x1, x2, x3⟩ := HXA.out _ CW.out.bel
        have hl9 := HLEN.out
        have hs9 := CW.out.bel.size
        go_wp2_with (at_builtin; (refine wpList_append_own _ rfl _ _ 24 rfl w.heap.size 30 i0 _ 4 48 Tryd.underlying24 hi hz0 hz1 hz2 rfl (by decide) _ _ _ rfl (World.ownsRow.alloc CW.out.own _) ⟨W0.heap.size, 0, none⟩ 1 1 [_, _, _, _] rfl rfl (cell_fourG rfl) (four_nd _ _ _ _) ?k3 ?k4 ?k5 ?_))
        case k3 => unfold maxLen; omega
        case k4 => omega
        case k5 => omega
        intro v' w6 hown' hgrow _
        have CW6 : Hid (UdW w w6 v' (uf F pa (i + 1))) := by
          rw [HUF.out]
          exact ⟨by have h := hown'; rw [ndC_snoc (uf F pa i) ⟨pa, pr, pm, pd⟩] at h; simpa only [List.length_append, List.length_singleton, List.length_cons, List.length_nil] using h, (CW.out.bel.alloc CW.out.bel.size _).grown hgrow (by rw [World.size_alloc]; omega) (fun k hk => (CW.out.own.lt k hk).1)⟩
        clear hown' hgrow hs9 hl9 x0 x1 x2 x3 CW
        go_wp2_with fail
        go_roundw
        case rel => exact ⟨i + 1, _, by have := HLT.out; omega, by go_num, rfl, CW6⟩
        case measure => simp [trI]; have := HLT.out; omega
      · have hb1 : (pa.toList == s.toList) = false := by
          rw [beq_eq_false_iff_ne]
          exact fun e => hes (ba_list e)
        have HES := hidT hes
        clear hes
        by_cases hsz : s.size < pa.size
        · have hszI : (s.size : Int) < (pa.size : Int) := by omega
          have hszL : (s.size : Int) ≤ (pa.size : Int) := by omega
          by_cases hex : pa.extract 0 s.size = s
          · by_cases hc : pa[s.size] = 47
            · have HUF : Hid (uf F s (i + 1) = uf F s i ++ [⟨pa, pr, pm, pd⟩]) := by
                show _ = _
                rw [uf_yes (by rw [← HP.out]; exact unL_cut hsz hex hc), ← HP.out]
              have hb2 : ((pa.extract 0 s.size).toList == s.toList) = true := by rw [hex]; simp
              have hb3 : ((pa[s.size].toNat : Int) == 47) = true := by rw [hc]; decide
              clear hex hc
              obtain ⟨x0, x1, x2, x3⟩ := HXA.out _ CW.out.bel
              have hl9 := HLEN.out
              have hs9 := CW.out.bel.size
              go_wp2_with (at_builtin; (refine wpList_append_own _ rfl _ _ 24 rfl w.heap.size 30 i0 _ 4 48 Tryd.underlying24 hi hz0 hz1 hz2 rfl (by decide) _ _ _ rfl (World.ownsRow.alloc CW.out.own _) ⟨W0.heap.size, 0, none⟩ 1 1 [_, _, _, _] rfl rfl (cell_fourG rfl) (four_nd _ _ _ _) ?k3 ?k4 ?k5 ?_))
              case k3 => unfold maxLen; omega
              case k4 => omega
              case k5 => omega
              intro v' w6 hown' hgrow _
              have CW6 : Hid (UdW w w6 v' (uf F s (i + 1))) := by
                rw [HUF.out]
                exact ⟨by have h := hown'; rw [ndC_snoc (uf F s i) ⟨pa, pr, pm, pd⟩] at h; simpa only [List.length_append, List.length_singleton, List.length_cons, List.length_nil] using h, (CW.out.bel.alloc CW.out.bel.size _).grown hgrow (by rw [World.size_alloc]; omega) (fun k hk => (CW.out.own.lt k hk).1)⟩
              clear hown' hgrow hs9 hl9 x0 x1 x2 x3 CW
              go_wp2_with fail
              go_roundw
              case rel => exact ⟨i + 1, _, by have := HLT.out; omega, by go_num, rfl, CW6⟩
              case measure => simp [trI]; have := HLT.out; omega
            · have HUF : Hid (uf F s (i + 1) = uf F s i) := uf_no (by rw [← HP.out]; exact fun h => hc (unL_ne HES.out h).choose_spec.2)
              have hb2 : ((pa.extract 0 s.size).toList == s.toList) = true := by rw [hex]; simp
              have hb3 : ((pa[s.size].toNat : Int) == 47) = false := by
                rw [beq_eq_false_iff_ne]
                exact fun e => hc (by apply UInt8.toNat_inj.1; have e2 : (47 : UInt8).toNat = 47 := rfl; rw [e2]; omega)
              have x0 := (HXA.out _ CW.out.bel).1
              clear hex hc
              go_wp2_with fail
              go_roundw
              case rel => exact ⟨i + 1, _, by have := HLT.out; omega, by go_num, rfl, by rw [HUF.out]; exact CW⟩
              case measure => simp [trI]; have := HLT.out; omega
          · have HUF : Hid (uf F s (i + 1) = uf F s i) := uf_no (by rw [← HP.out]; exact fun h => hex (unL_ne HES.out h).choose_spec.1)
            have hb2 : ((pa.extract 0 s.size).toList == s.toList) = false := by
              rw [beq_eq_false_iff_ne]
              exact fun e => hex (ba_list e)
            have x0 := (HXA.out _ CW.out.bel).1
            clear hex
            go_wp2_with fail
            go_roundw
            case rel => exact ⟨i + 1, _, by have := HLT.out; omega, by go_num, rfl, by rw [HUF.out]; exact CW⟩
            case measure => simp [trI]; have := HLT.out; omega
        · have hszI : ¬ (s.size : Int) < (pa.size : Int) := by omega
          have hszL : (pa.size : Int) ≤ (s.size : Int) := by omega
          have HUF : Hid (uf F s (i + 1) = uf F s i) := uf_no (by rw [← HP.out]; exact fun h => hsz (unL_ne HES.out h).choose)
          have x0 := (HXA.out _ CW.out.bel).1
          clear hsz
          go_wp2_with fail
          go_roundw
          case rel => exact ⟨i + 1, _, by have := HLT.out; omega, by go_num, rfl, by rw [HUF.out]; exact CW⟩
          case measure => simp [trI]; have := HLT.out; omega
    · obtain rfl : i = n := by omega
      have HE : Hid (unA F i s = uf F s i) := unA_yes HDF.out
      go_wp2_with fail
      go_ret
      exact ⟨⟨_, rfl, by rw [HE.out]; exact CW.out.own⟩, CW.out.bel⟩
theorem sund_any (v : Value) (n : Nat) (F : Nat → NdI) (s : ByteArray) (w : World) (hF : NdLe F n) (hs : s.size ≤ 1048576) (h : NdArg w v n F) :
    Calls Tryd.prog 13 #[v, .string s] w fun e w' => (∃ v, e = .returned v ∧ w'.ownsRow w.heap.size 30 4 v (unA F n s).length (ndC (unA F n s))) ∧ Below w.heap.size w w' := by
  obtain ⟨a, c, rfl, hr⟩ := h
  by_cases hd : ndR F n
  · obtain ⟨g, hg⟩ : ∃ g, 0 < n → a = some ⟨g, 0, none⟩ ∧ NdRow w g n F := by
      by_cases h0 : 0 < n
      · obtain ⟨g, h1, h2⟩ := hr h0; exact ⟨g, fun _ => ⟨h1, h2⟩⟩
      · exact ⟨0, fun h => absurd h h0⟩
    exact sund_go g a c n F s w hF hs hd hg
  · have HTA : Hid (∀ w', Below w.heap.size w w' → Calls Tryd.prog 20 #[.slice a n c] w' fun e w'' => e = .returned (.bool false) ∧ Below w'.heap.size w' w'') := fun w' hb => by
      have h2 : NdArg w (.slice a n c) n F := ⟨a, c, rfl, hr⟩
      have := streeOk_any _ n F w' hF (h2.below hb)
      rw [ndB_no hd] at this
      exact this
    have HUN : Hid (unA F n s = []) := unA_no hd
    have HB0 : Hid (UdW w (w.alloc (.cells #[] 30)) (.slice (some ⟨w.heap.size, 0, none⟩) 0 0) []) := ⟨World.ownsRow_made (e := 30) (size := 4) w #[] 0 (Nat.le_refl _) (by unfold maxLen; omega) rfl, (Below.refl _ _).alloc (Nat.le_refl _) _⟩
    clear hr hF hd
    go_enter Tryd.func13, Tryd.ntmps13
    go_wp2_with fail
    refine (HTA.out _ HB0.out.bel).mono ?_
    rintro e w1 ⟨rfl, hb1⟩
    have HB1 := hidT (HB0.out.call hb1)
    clear hb1 HB0
    go_wp2_with fail
    go_ret
    exact ⟨⟨_, rfl, by rw [HUN.out]; exact HB1.out.own⟩, HB1.out.bel⟩
end Go.Proofs.YtfegoldjejlcaaaDoor
