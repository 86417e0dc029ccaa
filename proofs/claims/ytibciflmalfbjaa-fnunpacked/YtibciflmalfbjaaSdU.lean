/-
  The specification's Unpack, at every text of a million bytes at most.
-/
import Derived.Test.YtibciflmalfbjaaSdK
namespace Go.Proofs.Ytibciflmalfbjaa
open Go.RowKit
set_option linter.unusedVariables false
set_option linter.unusedSimpArgs false

theorem blS {B C : Nat} {a b c : World} (h : Below B a b) (k : Below C b c) (hBC : B ≤ C) : Below B a c := ⟨k.os.trans h.os, k.tape.trans h.tape, k.output.trans h.output, Nat.le_trans h.size k.size, fun i hi => (k.block i (Nat.lt_of_lt_of_le hi hBC)).trans (h.block i hi)⟩
structure SU (w wr : World) (b7 : Nat) (sd : DS × Bool) (v : Value) (o : List Nat) : Prop where
  own : wr.ownsRow w.heap.size 5 1 v o.length (bL o)
  rd : SDAt wr w.heap.size b7 sd
  below : Below w.heap.size w wr
  fine : sd.1.Fine
theorem SU.frs {w wr w' : World} {b7 : Nat} {sd sd' : DS × Bool} {v : Value} {o : List Nat} (h : SU w wr b7 sd v o) (hF : FRS wr w' w.heap.size b7) (hD : SDAt w' w.heap.size b7 sd') (hf : sd'.1.Fine) : SU w w' b7 sd' v o := by
  refine ⟨?_, hD, h.below.trans hF.below, hf⟩
  obtain ⟨R, gp, c, hR, _⟩ := h.rd
  obtain ⟨hl, ⟨h0, hn⟩ | ⟨g, cap, cur, h1, h2, h3, h4⟩⟩ := h.own
  · exact ⟨hl, Or.inl ⟨h0, hn⟩⟩
  · refine ⟨hl, Or.inr ⟨g, cap, cur, h1, h2, hF.keep g cur _ _ h3 (fun e => ?_) (by decide), h4⟩⟩
    have q := hR.row
    rw [← e, h3] at q
    injection q with q
    injection q with _ q _
    exact absurd q (by decide)
theorem SU.put {w wr w4 : World} {b7 x : Nat} {sd : DS × Bool} {v v' : Value} {o : List Nat} (h : SU w wr b7 sd v o) (X : Obj)
    (h1 : w4.ownsRow w.heap.size 5 1 v' (o.length + 1) (bL o ++ [.int .u8 (x : Int)])) (h2 : (wr.alloc X).grownBy w4 v.ownBlock) : SU w w4 b7 sd v' (o ++ [x]) := by
  have hsz := h.below.size
  refine ⟨?_, ?_, (h.below.alloc hsz _).grown h2 (by simp; omega) (fun k hk => (h.own.lt k hk).1), h.fine⟩
  · rw [bL_snoc] at h1
    rw [List.length_append]; exact h1
  · obtain ⟨R, gp, c, hR, hr⟩ := h.rd
    obtain ⟨_, cur, hp⟩ := hR.prow
    have l1 := hR.lt
    have l2 := (Array.getElem?_eq_some_iff.1 hp).1
    exact ⟨R, gp, c, hR.same ((h2.block b7 (by simp; omega) (row_apartE (by decide) h.own hR.row)).trans (Below.heap_alloc _ _ _ l1)) ((h2.block gp (by simp; omega) (row_apartE (by decide) h.own hp)).trans (Below.heap_alloc _ _ _ l2)), hr⟩
theorem SU.bad {w wr : World} {b7 : Nat} {sd : DS × Bool} {v : Value} {o : List Nat} (h : SU w wr b7 sd v o) : wr.cell? ⟨b7, 3, none⟩ = some (.bool sd.2) := by
  obtain ⟨R, gp, c, hR, hr⟩ := h.rd
  exact cell_of_row _ _ _ _ _ _ hR.row
theorem SU.call {w wr w' : World} {b7 : Nat} {sd : DS × Bool} {v : Value} {o : List Nat} (h : SU w wr b7 sd v o) (hb : Below wr.heap.size wr w') : SU w w' b7 sd v o := by
  obtain ⟨R, gp, c, hR, hr⟩ := h.rd
  obtain ⟨_, cur, hp⟩ := hR.prow
  exact ⟨owns_call1 h.own hb, ⟨R, gp, c, hR.same (hb.block _ hR.lt) (hb.block _ (Array.getElem?_eq_some_iff.1 hp).1), hr⟩, blS h.below hb h.below.size, h.fine⟩
set_option maxRecDepth 100000 in
set_option maxHeartbeats 8000000 in
theorem sunpack_go (S R : ByteArray) (n : Nat) (w : World) (hs : S.size ≤ 1048576) (hI : numI S = some (n, R)) (hn : n ≤ 4000) (hRs : R.size ≤ 1048576) :
    Calls Try.prog 7 #[.string S] w fun e w' => e = .returned (upAns (sunp S)) ∧ Below w.heap.size w w' := by
  have HN : Hid (∀ w, Calls Try.prog 21 #[.string S] w fun e w' => e = .returned (.tuple #[.int .i64 (n : Int), .string R, .bool true]) ∧ Below w.heap.size w w') := fun w => by
    have h := snumI_any S w hs
    rw [hI] at h
    exact h
  obtain ⟨cd, RR, bad, HBG, hfine, hsr⟩ : ∃ (cd : Nat) (RR : ByteArray) (bad : Bool), Hid (∀ w, Calls Try.prog 22 #[.string R] w fun e w' => (∃ v, e = .returned v ∧ BGN w w' v cd RR bad) ∧ Below w.heap.size w w') ∧ (DS.start cd (bl RR)).Fine ∧
      sunp S = open Classical in (match srun n n (DS.start cd (bl RR), bad) 0 [] with
        | none => none
        | some o => if pckB (strL o) = S then some (strL o) else none) := by
    by_cases hst : startOk R
    · refine ⟨code0 R, rest0 R, false, fun w => sbegin_yes R w (by omega) hst, DS.start_fine (pt4_lt (bsOf_lt _) 0) (bl_lt _), ?_⟩
      conv => lhs; unfold sunp
      rw [hI]
      simp only []
      rw [if_neg (by omega), if_pos hst]
      rfl
    · refine ⟨0, ⟨#[]⟩, true, fun w => sbegin_no R w (by omega) hst, DS.start_fine (by decide) (bl_lt _), ?_⟩
      conv => lhs; unfold sunp
      rw [hI]
      simp only []
      rw [if_neg (by omega), if_neg hst, srun_bad rfl]
  obtain ⟨Z, hZ⟩ : ∃ Z, Z = srun n n (DS.start cd (bl RR), bad) 0 [] := ⟨_, rfl⟩
  have HZ0 : Hid (Z = srun n n (DS.start cd (bl RR), bad) 0 []) := hZ
  rw [← hZ] at hsr
  have HZN : Hid (Z = none → sunp S = none) := fun h => by rw [hsr, h]
  have HZY : Hid (∀ o, Z = some o → pckB (strL o) = S → sunp S = some (strL o)) := fun o h h2 => by rw [hsr, h]; simp only []; rw [if_pos h2]
  have HZX : Hid (∀ o, Z = some o → pckB (strL o) ≠ S → sunp S = none) := fun o h h2 => by rw [hsr, h]; simp only []; rw [if_neg h2]
  have HFI : Hid ((DS.start cd (bl RR)).Fine) := hfine
  have hnI : (n : Int) ≤ 4000 := by omega
  have hnI2 : ¬ (4000 : Int) < (n : Int) := by omega
  have HTK : Hid (∀ (w : World) (b7 : Nat × Nat) (sd : DS × Bool) (x : Nat), sd.1.Fine → SDAt w b7.1 b7.2 sd → x < 512 → Calls Try.prog 23 #[.pointer (some ⟨b7.2, 0, none⟩), .int .i64 ((x : Nat) : Int)] w fun e w' => e = .returned (.int .i64 ((stell sd x : Nat) : Int)) ∧ SDAt w' b7.1 b7.2 (sgo sd x) ∧ FRS w w' b7.1 b7.2) := fun w b7 sd x h1 h2 h3 => sdtake_any h1 h2 h3
  have HPK : Hid (∀ (s : ByteArray) w, s.size ≤ 4000 → Calls Try.prog 25 #[.string s] w fun e w' => e = .returned (.tuple #[.string (pckB s), .bool true]) ∧ Below w.heap.size w w') := fun s w h => spack_yes s w h
  obtain ⟨i0, hi, hz0, hz1, hz2⟩ := info_parts Try.infb8
  generalize sunp S = ans at HZN HZY HZX ⊢
  clear hZ hsr hfine hI
  go_enter Try.func7, Try.ntmps7
  go_wp2_with fail
  refine (HN.out _).mono ?_
  rintro e w1 ⟨rfl, hb1⟩
  go_wp2_with fail
  refine (HBG.out _).mono ?_
  rintro e w2 ⟨⟨v2, rfl, gp, c, rfl, ho2⟩, hb2⟩
  have hb12 : Below w.heap.size w w2 := blS hb1 hb2 hb1.size
  obtain ⟨W, hW⟩ : ∃ W, W = (w2.alloc (.cells #[.int .u32 (cd : Int), .int .u32 4294967295, .string RR, .bool bad, .slice (some ⟨gp, 0, none⟩) 512 c] 45)).alloc (.cells #[] 5) := ⟨_, rfl⟩
  have hU : SU w W w2.heap.size (DS.start cd (bl RR), bad) (.slice (some ⟨w2.heap.size + 1, 0, none⟩) 0 0) [] := by
    refine ⟨?_, ⟨RR, gp, c, ⟨?_, ?_, hb12.size⟩, rfl⟩, ?_, HFI.out⟩
    · rw [hW]
      have h := World.ownsRow_made (w2.alloc (.cells #[.int .u32 (cd : Int), .int .u32 4294967295, .string RR, .bool bad, .slice (some ⟨gp, 0, none⟩) 512 c] 45)) #[] 0 (e := 5) (base := w.heap.size) (size := 1) (by have := hb12.size; simp; omega) (by unfold maxLen; omega) rfl
      simpa [bL] using h
    · rw [hW, Below.heap_alloc _ _ _ (by simp)]; exact heap_alloc_new w2 _
    · rw [hW]; exact ((owns_lower ho2 hb1.size).alloc _).alloc _
    · rw [hW]; exact (hb12.alloc hb12.size _).alloc (by have := hb12.size; simp; omega) _
  have HU := hidS hU
  have HGB : Hid (w.heap.size ≤ w2.heap.size) := hb12.size
  clear hb1 hb2 hb12 ho2 hU HBG HN HFI
  go_wp2_with fail
  rw [← hW]
  clear hW
  generalize w2.heap.size = b7 at HU HGB ⊢
  go_loopw [8, 9] (fun x v wr => ∃ (k a : Nat) (sd : DS × Bool) (o : List Nat), x = .int .i64 (a : Int) ∧ a < 2 ∧ o.length ≤ n ∧ n ≤ o.length + k ∧ Hid (Z = srun n k sd a o) ∧ Hid (AllB o) ∧ Hid (SU w wr b7 sd v o)) (fun _ v _ => n - mLen v)
  case atStart => exact ⟨n, 0, _, [], rfl, by decide, Nat.zero_le _, by show n ≤ 0 + n; omega, HZ0, fun x hx => (by cases hx), HU⟩
  case round =>
    clear HU HZ0
    obtain ⟨k, a, sd, o, rfl, ha, hon, hk, HZ, HAB, HU⟩ := hrel
    obtain ⟨ra, rc, rfl⟩ := own_len1 HU.out.own
    have y3 := HU.out.bad
    obtain ⟨bd, hbd⟩ : ∃ bd, bd = sd.2 := ⟨_, rfl⟩
    rw [← hbd] at y3
    by_cases hlt : o.length < n
    · have hltI : (o.length : Int) < (n : Int) := by omega
      cases bd with
      | true =>
        obtain rfl := HZN.out (by rw [HZ.out]; exact srun_bad hbd.symm)
        have HB := hidS HU.out.below
        clear HZ HU HAB HZN HZY HZX hbd hlt hon hk
        go_wp2_with fail
        go_ret2
        exact ⟨rfl, HB.out⟩
      | false =>
        obtain ⟨k, rfl⟩ : ∃ j, k = j + 1 := ⟨k - 1, by omega⟩
        have hT := HTK.out wr (w.heap.size, b7) sd a HU.out.fine HU.out.rd (by omega)
        have hbt2 := stell_lt sd a
        have HFN : Hid ((sgo sd a).1.Fine) := sgo_fine HU.out.fine a
        have HB0 : Hid (stell sd a = 0 → smTok sd a = ((thT sbitR snxtR 1 0 8 1 (sgo sd a)).1, ⟨0, (thT sbitR snxtR 1 0 8 1 (sgo sd a)).2 - 2 ^ 8, 0, 0⟩)) := fun h => thTok_byte (bit := sbitR) (nxt := snxtR) h
        have HB1 : Hid (stell sd a ≠ 0 → smTok sd a = ((thT sbitR snxtR 400 ((0 - 1 : Int).tmod 64) 6 1 (thT sbitR snxtR 330 ((0 - 1 : Int).tdiv 64) 6 1 (thT sbitR snxtR 260 (0 - 3) 6 1 (sgo sd a)).1).1).1, tkOf (thT sbitR snxtR 260 (0 - 3) 6 1 (sgo sd a)).2 (thT sbitR snxtR 330 ((0 - 1 : Int).tdiv 64) 6 1 (thT sbitR snxtR 260 (0 - 3) 6 1 (sgo sd a)).1).2 (thT sbitR snxtR 400 ((0 - 1 : Int).tmod 64) 6 1 (thT sbitR snxtR 330 ((0 - 1 : Int).tdiv 64) 6 1 (thT sbitR snxtR 260 (0 - 3) 6 1 (sgo sd a)).1).1).2)) := fun h => thTok_copy (bit := sbitR) (nxt := snxtR) h
        generalize sgo sd a = sd1 at hT HFN HB0 HB1
        generalize stell sd a = bt at hT hbt2 HB0 HB1
        have HT := hidS hT
        have HSF : Hid (sd.2 = false) := hbd.symm
        clear hT hbd
        go_wp2_with fail
        refine (HT.out).mono ?_
        rintro e w3 ⟨rfl, hD3, hF3⟩
        have hU3 : SU w w3 b7 sd1 (.slice ra o.length rc) o := HU.out.frs hF3 hD3 HFN.out
        have HU3 := hidS hU3
        clear hD3 hF3 hU3 HU HT y3
        by_cases hb0 : bt = 0
        · subst hb0
          have HTT := hidS (HB0.out rfl)
          have hK := sk7_any (w := w3) (B := w.heap.size) (g := b7) (sb := sd1) 1 8 1 8 0 rfl rfl HU3.out.fine HU3.out.rd (Or.inl rfl) ⟨by decide, fun _ => by decide⟩
          have hlt8 := thT_lt (bit := sbitR) (nxt := snxtR) (fun s c t _ => stell_lt s c) 1 0 8 1 1 sd1 (by decide)
          have HFN4 : Hid ((thT sbitR snxtR 1 0 8 1 sd1).1.1.Fine) := thS_fine 1 0 8 1 sd1 HU3.out.fine
          obtain ⟨X, hX⟩ : ∃ X, X = thT sbitR snxtR 1 0 8 1 sd1 := ⟨_, rfl⟩
          rw [← hX] at hK hlt8 HTT HFN4
          obtain ⟨x, hx⟩ : ∃ x, x = X.2 - 2 ^ 8 := ⟨_, rfl⟩
          rw [← hx] at hK HTT
          have hx256 : x < 256 := by
            have e1 : 2 ^ (1 + 8) = 512 := by decide
            have e2 : 2 ^ 8 = 256 := by decide
            rw [e1] at hlt8; rw [e2] at hx; omega
          have HZ2 : Hid (Z = srun n k X.1 0 (o ++ [x])) := by
            have e1 : (smTok sd a).2.k = 0 := by rw [HTT.out]
            have h := srun_byte (k := k) HSF.out hlt e1
            rw [HTT.out] at h
            show Z = _
            rw [HZ.out]; exact h
          have HK := hidS hK
          have hwx : IntKind.u8.wrap (x : Int) = (x : Int) := by rw [IntKind.wrap_u8]; omega
          have HAB2 : Hid (AllB (o ++ [x])) := HAB.out.snoc hx256
          have hol : (o ++ [x]).length = o.length + 1 := by rw [List.length_append]; rfl
          clear hK hlt8 hX hx HTT HB0 HB1 HZ HAB HFN
          go_wp2_with fail
          refine (HK.out).mono ?_
          rintro e w5 ⟨rfl, hD5, hF5⟩
          have hU5 : SU w w5 b7 X.1 (.slice ra o.length rc) o := HU3.out.frs hF5 hD5 HFN4.out
          have HU5 := hidS hU5
          have hsz5 := hU5.below.size
          have HOW := hU5.own
          clear hD5 hF5 hU5 HU3 HK
          go_wp2_with (at_builtin; (refine wpList_append_own _ rfl _ _ 25 rfl w.heap.size 5 i0 _ 1 1 Try.underlying25 hi hz0 hz1 hz2 rfl (by decide) _ _ _ rfl (HOW.alloc _) ⟨w5.heap.size, 0, none⟩ 1 1 [_] rfl rfl (cell_at_new _ _ _ _ ?c1) ?c2 ?c3 ?c4 ?c5 ?_))
          case c1 => rfl
          case c2 => exact byte_one _
          case c3 => unfold maxLen; omega
          case c4 => omega
          case c5 => simp; omega
          intro v' w4 hown' hgrow _
          have H4 := hidS (HU5.out.put _ hown' hgrow)
          have hl4 := own_len1 H4.out.own
          rw [hol] at hl4
          obtain ⟨ra2, rc2, rfl⟩ := hl4
          clear hown' hgrow HOW HU5
          go_wp2_with fail
          go_roundw
          case rel => exact ⟨k, 0, X.1, o ++ [x], rfl, by decide, by rw [hol]; omega, by rw [hol]; omega, HZ2, HAB2, H4⟩
          case measure => simp [mLen]; omega
        · have hb1 : bt = 1 := by omega
          subst hb1
          have HTT := hidS (HB1.out (by decide))
          have hK1 := sk7_any (w := w3) (B := w.heap.size) (g := b7) (sb := sd1) 260 6 260 6 (0 - 3) rfl rfl HU3.out.fine HU3.out.rd (Or.inr rfl) ⟨by decide, fun h => by cases h⟩
          have HF2 : Hid ((thT sbitR snxtR 260 (0 - 3) 6 1 sd1).1.1.Fine) := thS_fine 260 (0 - 3) 6 1 sd1 HU3.out.fine
          have hlt1 := thT_lt (bit := sbitR) (nxt := snxtR) (fun s c t _ => stell_lt s c) 260 (0 - 3) 6 1 1 sd1 (by decide)
          obtain ⟨X1, hX1⟩ : ∃ X, X = thT sbitR snxtR 260 (0 - 3) 6 1 sd1 := ⟨_, rfl⟩
          rw [← hX1] at hK1 HF2 HTT hlt1
          have HF3 : Hid ((thT sbitR snxtR 330 ((0 - 1 : Int).tdiv 64) 6 1 X1.1).1.1.Fine) := thS_fine 330 _ 6 1 X1.1 HF2.out
          have hlt2 := thT_lt (bit := sbitR) (nxt := snxtR) (fun s c t _ => stell_lt s c) 330 ((0 - 1 : Int).tdiv 64) 6 1 1 X1.1 (by decide)
          have HK2 : Hid (∀ w', SDAt w' w.heap.size b7 X1.1 → Calls Try.prog 24 #[.pointer (some ⟨b7, 0, none⟩), .int .i64 330, .int .i64 6] w' fun e w'' => e = .returned (.int .i64 (((thT sbitR snxtR 330 ((0 - 1 : Int).tdiv 64) 6 1 X1.1).2 - 2 ^ 6 : Nat) : Int)) ∧ (SDAt w'' w.heap.size b7 (thT sbitR snxtR 330 ((0 - 1 : Int).tdiv 64) 6 1 X1.1).1 ∧ FRS w' w'' w.heap.size b7)) := fun w' h => sk7_any 330 6 330 6 _ rfl rfl HF2.out h (Or.inr rfl) ⟨by decide, fun h => by cases h⟩
          obtain ⟨X2, hX2⟩ : ∃ X, X = thT sbitR snxtR 330 ((0 - 1 : Int).tdiv 64) 6 1 X1.1 := ⟨_, rfl⟩
          rw [← hX2] at HK2 HF3 HTT hlt2
          have HF4 : Hid ((thT sbitR snxtR 400 ((0 - 1 : Int).tmod 64) 6 1 X2.1).1.1.Fine) := thS_fine 400 _ 6 1 X2.1 HF3.out
          have hlt3 := thT_lt (bit := sbitR) (nxt := snxtR) (fun s c t _ => stell_lt s c) 400 ((0 - 1 : Int).tmod 64) 6 1 1 X2.1 (by decide)
          have HK3 : Hid (∀ w', SDAt w' w.heap.size b7 X2.1 → Calls Try.prog 24 #[.pointer (some ⟨b7, 0, none⟩), .int .i64 400, .int .i64 6] w' fun e w'' => e = .returned (.int .i64 (((thT sbitR snxtR 400 ((0 - 1 : Int).tmod 64) 6 1 X2.1).2 - 2 ^ 6 : Nat) : Int)) ∧ (SDAt w'' w.heap.size b7 (thT sbitR snxtR 400 ((0 - 1 : Int).tmod 64) 6 1 X2.1).1 ∧ FRS w' w'' w.heap.size b7)) := fun w' h => sk7_any 400 6 400 6 _ rfl rfl HF3.out h (Or.inr rfl) ⟨by decide, fun h => by cases h⟩
          obtain ⟨X3, hX3⟩ : ∃ X, X = thT sbitR snxtR 400 ((0 - 1 : Int).tmod 64) 6 1 X2.1 := ⟨_, rfl⟩
          rw [← hX3] at HK3 HF4 HTT hlt3
          obtain ⟨x1, hx1⟩ : ∃ x, x = X1.2 - 2 ^ 6 := ⟨_, rfl⟩
          obtain ⟨x2, hx2⟩ : ∃ x, x = X2.2 - 2 ^ 6 := ⟨_, rfl⟩
          obtain ⟨x3, hx3⟩ : ∃ x, x = X3.2 - 2 ^ 6 := ⟨_, rfl⟩
          rw [← hx1] at hK1
          rw [← hx2] at HK2
          rw [← hx3] at HK3
          obtain ⟨lg, hlg⟩ : ∃ lg, lg = x1 + 3 := ⟨_, rfl⟩
          obtain ⟨dd, hdd⟩ : ∃ dd, dd = x2 * 64 + x3 + 1 := ⟨_, rfl⟩
          have hTK : (smTok sd a).1 = X3.1 ∧ (smTok sd a).2.k = 1 ∧ (smTok sd a).2.d = dd ∧ (smTok sd a).2.l = lg := by
            rw [HTT.out]
            refine ⟨rfl, rfl, ?_, ?_⟩
            · show (X2.2 - 2 ^ 6) * 64 + (X3.2 - 2 ^ 6) + 1 = dd
              rw [hdd, hx2, hx3]
            · show X1.2 - 2 ^ 6 + 3 = lg
              rw [hlg, hx1]
          have HTK2 := hidS hTK
          have e64 : 2 ^ (1 + 6) = 128 := by decide
          have e32 : 2 ^ 6 = 64 := by decide
          rw [e64] at hlt1 hlt2 hlt3
          have b1 : x1 < 64 := by rw [hx1, e32]; omega
          have b2 : x2 < 64 := by rw [hx2, e32]; omega
          have b3 : x3 < 64 := by rw [hx3, e32]; omega
          have HK1 := hidS hK1
          have f1 : (x1 : Int) + 3 = (lg : Int) := by omega
          have f1w : IntKind.i64.wrap ((x1 : Int) + 3) = (lg : Int) := by rw [IntKind.wrap_i64]; omega
          have f2w : IntKind.i64.wrap (64 * (x2 : Int)) = 64 * (x2 : Int) := by rw [IntKind.wrap_i64]; omega
          have f3w : IntKind.i64.wrap (64 * (x2 : Int) + (x3 : Int)) = 64 * (x2 : Int) + (x3 : Int) := by rw [IntKind.wrap_i64]; omega
          have f4w : IntKind.i64.wrap (64 * (x2 : Int) + (x3 : Int) + 1) = (dd : Int) := by rw [IntKind.wrap_i64]; omega
          have f4 : 64 * (x2 : Int) + (x3 : Int) + 1 = (dd : Int) := by omega
          have hddb : 1 ≤ dd ∧ dd ≤ 4096 := by omega
          have hlgb : 3 ≤ lg ∧ lg ≤ 66 := by omega
          clear hK1 hlt1 hlt2 hlt3 hX1 hX2 hX3 hx1 hx2 hx3 HTT HB0 HB1 HFN hTK e64 e32 hlg hdd
          go_wp2_with fail
          refine (HK1.out).mono ?_
          rintro e w5 ⟨rfl, hD5, hF5⟩
          have hU5 : SU w w5 b7 X1.1 (.slice ra o.length rc) o := HU3.out.frs hF5 hD5 HF2.out
          have HU5 := hidS hU5
          clear hD5 hF5 hU5 HU3 HK1
          go_wp2_with fail
          refine (HK2.out _ HU5.out.rd).mono ?_
          rintro e w6 ⟨rfl, hD6, hF6⟩
          have hU6 : SU w w6 b7 X2.1 (.slice ra o.length rc) o := HU5.out.frs hF6 hD6 HF3.out
          have HU6 := hidS hU6
          clear hD6 hF6 hU6 HU5 HK2
          go_wp2_with fail
          refine (HK3.out _ HU6.out.rd).mono ?_
          rintro e w7 ⟨rfl, hD7, hF7⟩
          have hU7 : SU w w7 b7 X3.1 (.slice ra o.length rc) o := HU6.out.frs hF7 hD7 HF4.out
          have HU7 := hidS hU7
          have HB7 := hidS hU7.below
          clear hD7 hF7 hU7 HU6 HK3
          have hwl : IntKind.i64.wrap ((o.length : Int) + (lg : Int)) = (o.length : Int) + (lg : Int) := by rw [IntKind.wrap_i64]; omega
          by_cases h1 : dd ≤ o.length
          · have h1I : ¬ (o.length : Int) < (dd : Int) := by omega
            by_cases h2 : o.length + lg ≤ n
            · have h2I : ¬ (n : Int) < (o.length : Int) + (lg : Int) := by omega
              have HZ2 : Hid (Z = srun n k X3.1 1 (cpI dd o lg)) := by
                have h := srun_copy (k := k) HSF.out hlt (by rw [HTK2.out.2.1]; decide) (by rw [HTK2.out.2.2.1]; exact h1) (by rw [HTK2.out.2.2.2]; exact h2)
                rw [HTK2.out.1, HTK2.out.2.2.1, HTK2.out.2.2.2] at h
                show Z = _
                rw [HZ.out]; exact h
              have HDD : Hid (dd ≤ o.length ∧ o.length + lg ≤ n ∧ n ≤ 4000 ∧ 1 ≤ dd ∧ n ≤ o.length + (k + 1)) := ⟨h1, h2, hn, hddb.1, hk⟩
              have HAB2 : Hid (AllB (cpI dd o lg)) := HAB.out.cp dd lg
              have HON : Hid (o.length < n) := hlt
              have hd1 : decide ((o.length : Int) < (dd : Int)) = false := decide_eq_false h1I
              have hd1n : decide (o.length < dd) = false := decide_eq_false (by omega)
              have hd2 : decide ((n : Int) < (o.length : Int) + (lg : Int)) = false := decide_eq_false h2I
              clear HZ HTK2 hlt hon h1I h2I
              go_wp2_with fail
              go_loopw [9, 14] (fun v c wr => ∃ (j : Nat), j ≤ lg ∧ c = .int .i64 (j : Int) ∧ Hid (SU w wr b7 X3.1 v (cpI dd o j))) (fun _ c _ => lg - (lonIntOf c).toNat)
              case atStart => exact ⟨0, by omega, rfl, HU7⟩
              case round =>
                clear HU7
                obtain ⟨j, hj, rfl, HUJ⟩ := hrel
                have hcl := cpI_len dd o j
                by_cases hlt2 : j < lg
                · have hltJ : (j : Int) < (lg : Int) := by omega
                  obtain ⟨g, cap, cur, rfl, _, _, hcell⟩ := own_form1 HUJ.out.own (by omega)
                  obtain ⟨q, hq⟩ : ∃ q, o.length + j = q + dd := ⟨o.length + j - dd, by omega⟩
                  have x0 := hcell q _ (bL_at (cpI dd o j) q (by omega))
                  have hqe : (cpI dd o j).length - dd = q := by omega
                  have HOW := HUJ.out.own
                  have hszj := HUJ.out.below.size
                  have HNX : Hid (∀ v' w4, w4.ownsRow w.heap.size 5 1 v' ((cpI dd o j).length + 1) (bL (cpI dd o j) ++ [.int .u8 (((cpI dd o j).getD q 0 : Nat) : Int)]) → (wr.alloc (.cells #[.int .u8 (((cpI dd o j).getD q 0 : Nat) : Int)] 5)).grownBy w4 (Value.slice (some ⟨g, 0, none⟩) (cpI dd o j).length cap).ownBlock → SU w w4 b7 X3.1 v' (cpI dd o (j + 1))) := fun v' w4 h1 h2 => by
                    have h3 := HUJ.out.put _ h1 h2
                    show SU w w4 b7 X3.1 v' (cpI dd o j ++ [(cpI dd o j).getD ((cpI dd o j).length - dd) 0])
                    rw [hqe]; exact h3
                  have hn4 : o.length + j ≤ 4066 := by have := HDD.out; omega
                  generalize (cpI dd o j).getD q 0 = c4 at x0 HNX
                  rw [hcl] at HOW HNX ⊢
                  generalize o.length + j = m at HOW hq x0 HNX hn4 ⊢
                  have hwn : IntKind.i64.wrap ((m : Int) - (dd : Int)) = (q : Int) := by rw [IntKind.wrap_i64]; omega
                  have hqn : (q : Int) < (m : Int) := by omega
                  have hqN : q < m := by omega
                  clear hcell hcl hqe hq HUJ
                  go_wp2_with (at_builtin; (refine wpList_append_own _ rfl _ _ 25 rfl w.heap.size 5 i0 _ 1 1 Try.underlying25 hi hz0 hz1 hz2 rfl (by decide) _ _ _ rfl (HOW.alloc _) ⟨wr.heap.size, 0, none⟩ 1 1 [_] rfl rfl (cell_at_new _ _ _ _ ?c1) ?c2 ?c3 ?c4 ?c5 ?_))
                  case c1 => rfl
                  case c2 => exact byte_one _
                  case c3 => unfold maxLen; omega
                  case c4 => omega
                  case c5 => simp; omega
                  intro v' w4 hown' hgrow _
                  have H4 : Hid _ := HNX.out v' w4 hown' hgrow
                  clear hown' hgrow HOW HNX
                  go_wp2_with fail
                  go_roundw
                  case rel => first | exact ⟨j + 1, by omega, by go_num, H4⟩ | ((repeat apply Exists.intro); exact ⟨⟨j + 1, by omega, (show Value.int .i64 ((j : Int) + 1) = .int .i64 ((j + 1 : Nat) : Int) from by go_num), H4⟩, rfl⟩)
                  case measure => simp [lonIntOf]; omega
                · obtain rfl : j = lg := by omega
                  obtain ⟨ra2, rc2, hv2⟩ := own_len1 HUJ.out.own
                  subst hv2
                  have HLN : Hid ((cpI dd o j).length = o.length + j) := hcl
                  have h9 : n - (cpI dd o j).length < n - o.length := by have := HON.out; omega
                  clear hcl
                  go_wp2_with fail
                  go_roundw
                  case rel => first | exact ⟨k, 1, X3.1, cpI dd o j, rfl, by decide, by rw [HLN.out]; exact HDD.out.2.1, by rw [HLN.out]; have := HDD.out; omega, HZ2, HAB2, HUJ⟩ | ((repeat apply Exists.intro); exact ⟨⟨k, 1, X3.1, cpI dd o j, (show Value.int .i64 1 = .int .i64 ((1 : Nat) : Int) from rfl), by decide, by rw [HLN.out]; exact HDD.out.2.1, by rw [HLN.out]; have := HDD.out; omega, HZ2, HAB2, HUJ⟩, rfl⟩)
                  case measure => simpa [mLen] using h9
            · have h2I : (n : Int) < (o.length : Int) + (lg : Int) := by omega
              obtain rfl := HZN.out (by rw [HZ.out]; exact srun_not HSF.out hlt (by rw [HTK2.out.2.1]; decide) (by rw [HTK2.out.2.2.1, HTK2.out.2.2.2]; omega))
              clear HZ HTK2 HU7 HZN HZY HZX HAB
              go_wp2_with fail
              go_ret2
              exact ⟨rfl, HB7.out⟩
          · have h1I : (o.length : Int) < (dd : Int) := by omega
            obtain rfl := HZN.out (by rw [HZ.out]; exact srun_not HSF.out hlt (by rw [HTK2.out.2.1]; decide) (by rw [HTK2.out.2.2.1, HTK2.out.2.2.2]; omega))
            clear HZ HTK2 HU7 HZN HZY HZX HAB
            go_wp2_with fail
            go_ret2
            exact ⟨rfl, HB7.out⟩
    · have hltI : ¬ (o.length : Int) < (n : Int) := by omega
      cases bd with
      | true =>
        obtain rfl := HZN.out (by rw [HZ.out]; exact srun_bad hbd.symm)
        have HB := hidS HU.out.below
        clear HZ HU HAB HZN HZY HZX hbd hlt hon hk
        go_wp2_with fail
        go_ret2
        exact ⟨rfl, HB.out⟩
      | false =>
        have hZo : Z = some o := by rw [HZ.out]; exact srun_end hbd.symm (by omega)
        have HCV : Hid (∀ w', Below wr.heap.size wr w' → (convert 25 9 (.slice ra o.length rc)).run Try.prog w' = .ok (.string (strL o)) w') := fun w' hb => own_str HAB.out (owns_call1 HU.out.own hb)
        have hcv := HCV.out wr (Below.refl _ _)
        have hso := strL_size o
        have HB := hidS HU.out.below
        have HPS := hidS (fun w => HPK.out (strL o) w (by omega))
        by_cases he : pckB (strL o) = S
        · obtain rfl := HZY.out o hZo he
          rw [he] at HPS
          clear HZ HU HAB HZN HZY HZX hbd hlt hon hk hZo he hso HPK
          go_wp2_with fail
          refine (HPS.out _).mono ?_
          rintro e w5 ⟨rfl, hb5⟩
          have hcv2 := HCV.out w5 hb5
          go_wp2_with fail
          go_ret2
          exact ⟨rfl, blS HB.out hb5 HB.out.size⟩
        · obtain rfl := HZX.out o hZo he
          have hne : ((pckB (strL o)).toList == S.toList) = false := by
            rw [beq_eq_false_iff_ne]
            intro c
            rw [Lib.toList_data, Lib.toList_data] at c
            exact he (ByteArray.ext (Array.ext' c))
          generalize pckB (strL o) = P at HPS hne
          clear HZ HU HAB HZN HZY HZX hbd hlt hon hk hZo he hso HPK
          go_wp2_with fail
          refine (HPS.out _).mono ?_
          rintro e w5 ⟨rfl, hb5⟩
          go_wp2_with fail
          go_ret2
          exact ⟨rfl, blS HB.out hb5 HB.out.size⟩
set_option maxRecDepth 100000 in
theorem sunpack_any (S : ByteArray) (w : World) (hs : S.size ≤ 1048576) :
    Calls Try.prog 7 #[.string S] w fun e w' => e = .returned (upAns (unp S)) ∧ Below w.heap.size w w' := by
  rw [← sunp_unp]
  have HN : Hid (∀ w, Calls Try.prog 21 #[.string S] w fun e w' => e = .returned (numIV (numI S)) ∧ Below w.heap.size w w') := fun w => snumI_any S w hs
  cases hI : numI S with
  | none =>
    rw [hI] at HN
    have e : sunp S = none := by unfold sunp; rw [hI]
    rw [e]
    clear hI e
    have HN2 : Hid (∀ w, Calls Try.prog 21 #[.string S] w fun e w' => e = .returned (.tuple #[.int .i64 0, .string ⟨#[]⟩, .bool false]) ∧ Below w.heap.size w w') := HN
    go_enter Try.func7, Try.ntmps7
    go_wp2_with fail
    refine (HN2.out _).mono ?_
    rintro e w1 ⟨rfl, hb1⟩
    go_wp2_with fail
    go_ret2
    exact ⟨rfl, hb1⟩
  | some p =>
    obtain ⟨n, R⟩ := p
    by_cases hn : n ≤ 4000
    · exact sunpack_go S R n w hs hI hn (by have := (numI_bd hI).2; omega)
    · rw [hI] at HN
      have e : sunp S = none := by unfold sunp; rw [hI]; simp only []; rw [if_pos (by omega)]
      rw [e]
      have hnI : (4000 : Int) < (n : Int) := by omega
      clear hI e hn
      have HN2 : Hid (∀ w, Calls Try.prog 21 #[.string S] w fun e w' => e = .returned (.tuple #[.int .i64 (n : Int), .string R, .bool true]) ∧ Below w.heap.size w w') := HN
      go_enter Try.func7, Try.ntmps7
      go_wp2_with fail
      refine (HN2.out _).mono ?_
      rintro e w1 ⟨rfl, hb1⟩
      go_wp2_with fail
      go_ret2
      exact ⟨rfl, hb1⟩
end Go.Proofs.Ytibciflmalfbjaa
