/-
  Several texts of this seat as one: VeS, VeT, WhC.
-/
import Derived.Test.YtpeddaljgmkomaaPk13
import Derived.Test.YtpeddaljgmkomaaPk16
import Derived.Maps.AppendAt
import Derived.Test.YtpeddaljgmkomaaPk14

/-!   The specification's versions of a chain. -/
namespace Go.Proofs.Ytpeddaljgmkomaa
open Go.RowKit
set_option linter.unusedVariables false
set_option linter.unusedSimpArgs false
theorem Try.infStr : (Try.prog.info? 9).map (fun i => (i.zero, i.size, i.bytes)) = some (some (.string ⟨#[]⟩), 1, 16) := by kernel_rfl
theorem Try.infI64 : (Try.prog.info? 2).map (fun i => (i.zero, i.size, i.bytes)) = some (some (.int .i64 0), 1, 8) := by kernel_rfl
theorem cell_one_at {W : World} {x : Value} {t : TypeId} {k : Nat} (hk : W.heap.size = k) : ∀ j u, [x][j]? = some u → (W.alloc (.cells #[x] t)).cell? ((⟨k, 0, none⟩ : Addr).add j) = some u := by
  subst hk
  exact cell_one_new W x t
def vtC (V : List VerI) : List Value := V.map fun v => .string v.t
def vdC (V : List VerI) : List Value := V.map fun v => .int .i64 v.d
structure SV (w wr : World) (V : List VerI) (ov dv : Value) : Prop where
  below : Below w.heap.size w wr
  o : wr.ownsRow w.heap.size 9 1 ov V.length (vtC V)
  d : wr.ownsRow w.heap.size 2 1 dv V.length (vdC V)
theorem SV.call {w wr w' : World} {V : List VerI} {ov dv : Value} (h : SV w wr V ov dv) (hb : Below wr.heap.size wr w') : SV w w' V ov dv :=
  ⟨dblow h.below hb h.below.size, owns_call h.o hb, owns_call h.d hb⟩
theorem SV.more {w wr w1 w2 : World} {V : List VerI} {ov dv ov' dv' : Value} {x : VerI} (h : SV w wr V ov dv) (W1 : World) (hb1 : Below wr.heap.size wr W1) (o1 : w1.ownsRow w.heap.size 9 1 ov' (V.length + 1) (vtC V ++ [.string x.t])) (g1 : W1.grownBy w1 ov.ownBlock)
    (W2 : World) (hb2 : Below w1.heap.size w1 W2) (o2 : w2.ownsRow w.heap.size 2 1 dv' (V.length + 1) (vdC V ++ [.int .i64 x.d])) (g2 : W2.grownBy w2 dv.ownBlock) : SV w w2 (V ++ [x]) ov' dv' := by
  have hW1 := h.call hb1
  have hd1 : w1.ownsRow w.heap.size 2 1 dv V.length (vdC V) := hW1.d.kept g1 (rows_apart hW1.d hW1.o (by decide))
  have B1 : Below w.heap.size w w1 := hW1.below.grown g1 hW1.below.size (fun k hk => (hW1.o.lt k hk).1)
  have B2 : Below w.heap.size w W2 := dblow B1 hb2 B1.size
  have o12 := owns_call o1 hb2
  have hd2 := owns_call hd1 hb2
  refine ⟨B2.grown g2 B2.size (fun k hk => (hd2.lt k hk).1), ?_, ?_⟩
  · have h5 := o12.kept g2 (rows_apart o12 hd2 (by decide))
    rw [List.length_append]
    unfold vtC at h5 ⊢
    rw [List.map_append]
    exact h5
  · rw [List.length_append]
    unfold vdC at o2 ⊢
    rw [List.map_append]
    exact o2
theorem vtC_at {V : List VerI} {i : Nat} {o : VerI} (h : V[i]? = some o) : (vtC V)[i]? = some (.string o.t) := by unfold vtC; rw [List.getElem?_map, h]; rfl
theorem vdC_at {V : List VerI} {i : Nat} {o : VerI} (h : V[i]? = some o) : (vdC V)[i]? = some (.int .i64 o.d) := by unfold vdC; rw [List.getElem?_map, h]; rfl
/-- what l14All tells -/
def SvPost (w : World) (R : Option (List VerI)) (e : Ending) (w' : World) : Prop :=
  (match R with | some V => ∃ v, e = .returned (.tuple #[v, .bool true]) ∧ w'.ownsRow w.heap.size 9 1 v V.length (vtC V) | none => e = .returned (.tuple #[.slice none 0 0, .bool false])) ∧ Below w.heap.size w w'
set_option maxRecDepth 100000 in
set_option maxHeartbeats 1000000 in
theorem sv_some (g c n : Nat) (L : List LkI) (hLn : n = L.length) (w : World) (hl : LkLe L) (hn : n ≤ 30) (hg : LkCells w g L) :
    Calls Try.prog 38 #[.slice (some ⟨g, 0, none⟩) n c] w fun e w' => SvPost w (vAll L) e w' := by
  have hnI : (n : Int) ≤ 30 := by omega
  have hnI2 : ¬ (30 : Int) < (n : Int) := by omega
  obtain ⟨iS, hiS, hzS0, hzS1, hzS2⟩ := info_parts Try.infStr
  obtain ⟨iI, hiI, hzI0, hzI1, hzI2⟩ := info_parts Try.infI64
  have HX : Hid (n = L.length ∧ LkLe L ∧ LkCells w g L) := ⟨hLn, hl, hg⟩
  have HIY : Hid (∀ (x lo hi : Int) w, lo ≤ x → x ≤ hi → Calls Try.prog 42 #[.int .i64 x, .int .i64 lo, .int .i64 hi] w fun e w' => e = .returned (.bool true) ∧ w' = w) := fun x lo hi w h1 h2 => in_yes x lo hi w h1 h2
  have HIN : Hid (∀ (x lo hi : Int) w, ¬ (lo ≤ x ∧ x ≤ hi) → Calls Try.prog 42 #[.int .i64 x, .int .i64 lo, .int .i64 hi] w fun e w' => e = .returned (.bool false) ∧ w' = w) := fun x lo hi w h => in_no x lo hi w h
  have HST : Hid (SV w ((w.alloc (.cells #[] 9)).alloc (.cells #[] 2)) [] (.slice (some ⟨w.heap.size, 0, none⟩) 0 0) (.slice (some ⟨w.heap.size + 1, 0, none⟩) 0 0)) := by
    refine ⟨allocs_low [_, _] w, ?_, ?_⟩
    · exact owns_call (World.ownsRow_made w #[] 0 (Nat.le_refl _) (by unfold maxLen; omega) rfl) ((Below.refl _ _).alloc (Nat.le_refl _) _)
    · have h := World.ownsRow_made (base := w.heap.size) (e := 2) (size := 1) (w.alloc (.cells #[] 9)) #[] 0 (by simp) (by unfold maxLen; omega) rfl
      have e1 : (w.alloc (.cells #[] 9)).heap.size = w.heap.size + 1 := by simp
      rw [e1] at h
      exact h
  clear hg hl hLn
  go_enter Try.func38, Try.ntmps38
  go_wp2_with fail
  go_loopw [4, 5, 6] (fun ov dv v wr => ∃ (i : Nat) (V : List VerI), i ≤ n ∧ v = .int .i64 (i : Int) ∧ Hid (vF L i = some V) ∧ Hid (SV w wr V ov dv)) (fun _ _ v _ => n - (intN v).toNat)
  case atStart => exact ⟨0, [], by omega, rfl, rfl, HST⟩
  case round =>
    clear HST
    obtain ⟨i, V, hi, rfl, HV, HB⟩ := hrel
    have hVl := vF_len HV.out
    have HVL := dhid hVl
    by_cases hlt : i < n
    · have hltI : (i : Int) < (n : Int) := by omega
      have hx := List.getElem?_eq_getElem (l := L) (i := i) (by have := HX.out.1; omega)
      have hlx := HX.out.2.1.one _ (List.mem_of_getElem? hx)
      obtain ⟨pv, bs, x0, x1, x2, hd⟩ := HX.out.2.2.2 i _ hx
      have hgl := HX.out.2.2.1
      generalize L[i]'_ = x at hx hlx x0 x1 x2 hd
      have hpa := pcs_arg hd
      have HPA : Hid (∀ w', Below w.heap.size w w' → PcArg w' pv x.p.length (pcF x.p)) := fun w' hb' => hpa.below hb'
      obtain ⟨a1, c1, rfl, _⟩ := hpa
      have HXI : Hid (L[i]? = some x) := hx
      have HLX := dhid hlx
      obtain ⟨q, hq⟩ : ∃ q, q = 3 * i := ⟨_, rfl⟩
      have hiq : i * 3 = q := by omega
      rw [← hq] at x0 x1 x2
      rw [← HB.out.below.cell (p := ⟨g, q, none⟩) hgl] at x0
      rw [← HB.out.below.cell (p := ⟨g, q + 1, none⟩) hgl] at x1
      rw [← HB.out.below.cell (p := ⟨g, q + 2, none⟩) hgl] at x2
      obtain ⟨b, d, p⟩ := x
      simp only at x0 x1 x2 HPA HLX
      have hdI : (d.size : Int) ≤ 1048576 := by have := HLX.out.1; omega
      obtain ⟨np, hnp⟩ : ∃ np, np = p.length := ⟨_, rfl⟩
      rw [← hnp] at x2 HPA
      have HNP := dhid hnp
      have hnpI : (np : Int) ≤ 1048576 := by have := HLX.out.2.2.len; omega
      have HBX : Hid (Below wr.heap.size wr (wr.alloc (.cells #[.int .i64 b, .string d, .slice a1 np c1] 54))) := (Below.refl _ _).alloc (Nat.le_refl _) _
      have HSX := dhid (HB.out.call HBX.out)
      have hwi : IntKind.i64.wrap ((i : Int) - 1) = (i : Int) - 1 := by rw [IntKind.wrap_i64]; omega
      clear hx hlx hd hq hgl hVl hnp
      by_cases hin : -1 ≤ b ∧ b ≤ (i : Int) - 1
      · by_cases hd4 : d.size ≤ 4000
        · have hd4I : ¬ (4000 : Int) < (d.size : Int) := by omega
          by_cases hb0 : b < 0
          · obtain rfl : b = -1 := by omega
            by_cases hp0 : np = 0
            · subst hp0
              have HMK : Hid (vF L (i + 1) = some (V ++ [⟨d, 0⟩])) := by
                show vF L (i + 1) = _
                rw [vF_succ HV.out HXI.out, mkV_base rfl (by show p.length = 0; exact HNP.out.symm) hd4]; rfl
              go_wp2_with fail
              refine (HIY.out _ _ _ _ hin.1 hin.2).mono ?_
              rintro e w1 ⟨rfl, hw1⟩
              subst w1
              clear hin x0 x1 x2
              have hVi : V.length ≤ 30 := by rw [HVL.out]; omega
              have hsz1 : w.heap.size ≤ wr.heap.size := HB.out.below.size
              have hown := HSX.out.o
              go_wp2_with (at_builtin; (refine wpList_append_own _ rfl _ _ 49 rfl w.heap.size 9 iS _ 1 16 Try.underlying49 hiS hzS0 hzS1 hzS2 rfl (by decide) _ _ _ rfl (hown.alloc _) ⟨wr.heap.size + 1, 0, none⟩ 1 1 [_] rfl rfl (cell_one_at (by simp)) ?c2 ?c3 ?c4 ?c5 ?_))
              case c2 => simp [Value.oneCell']
              case c3 => unfold maxLen; omega
              case c4 => omega
              case c5 => simp; omega
              intro ov' w4 hown1 hgrow1 _
              have hdx := ((HSX.out).call ((Below.refl _ _).alloc (Nat.le_refl _) (.cells #[.string d] 9)))
              have hd4w : w4.ownsRow w.heap.size 2 1 _ V.length (vdC V) := hdx.d.kept hgrow1 (rows_apart hdx.d hdx.o (by decide))
              have hb4w : Below w.heap.size w w4 := hdx.below.grown hgrow1 hdx.below.size (fun k hk => (hdx.o.lt k hk).1)
              have HO1 := dhid hown1
              have HG1 := dhid hgrow1
              have HB4 := dhid hb4w
              have hsz4 : w.heap.size ≤ w4.heap.size := hb4w.size
              clear hown1 hgrow1 hown hdx hb4w
              go_wp2_with (at_builtin; (refine wpList_append_own _ rfl _ _ 82 rfl w.heap.size 2 iI _ 1 8 Try.underlying82 hiI hzI0 hzI1 hzI2 rfl (by decide) _ _ _ rfl (hd4w.alloc _) ⟨w4.heap.size, 0, none⟩ 1 1 [_] rfl rfl (cell_one_new _ _ _) ?c2 ?c3 ?c4 ?c5 ?_))
              case c2 => simp [Value.oneCell']
              case c3 => unfold maxLen; omega
              case c4 => omega
              case c5 => simp; omega
              intro dv' w5 hown2 hgrow2 _
              have HNEW : Hid (SV w w5 (V ++ [⟨d, 0⟩]) ov' dv') := (HSX.out).more (x := ⟨d, 0⟩) _ ((Below.refl _ _).alloc (Nat.le_refl _) _) HO1.out HG1.out _ ((Below.refl _ _).alloc (Nat.le_refl _) _) hown2 hgrow2
              clear hown2 hgrow2 hd4w HO1 HG1 HB4
              go_wp2_with fail
              go_roundw
              case rel => exact ⟨i + 1, _, by omega, by go_num, HMK, HNEW⟩
              case measure => simp [intN]; omega
            · have hp0I : (0 : Int) < (np : Int) := by omega
              have HBAD : Hid (vAll L = none) := vAll_bad HV.out HXI.out (mkV_base_no rfl fun c => hp0 (HNP.out.trans c.1))
              have HBF := dhid HSX.out.below
              clear hp0 HNP HPA
              go_wp2_with fail
              refine (HIY.out _ _ _ _ hin.1 hin.2).mono ?_
              rintro e w1 ⟨rfl, hw1⟩
              subst w1
              clear hin x0 x1 x2
              go_wp2_with fail
              go_ret2
              exact ⟨by rw [HBAD.out]; exact rfl, HBF.out⟩
          · have hbn : ((b.toNat : Nat) : Int) = b := Int.toNat_of_nonneg (by omega)
            have hbi : b.toNat < V.length := by rw [HVL.out]; omega
            obtain ⟨o, ho⟩ : ∃ o, V[b.toNat]? = some o := ⟨_, List.getElem?_eq_getElem hbi⟩
            have hob := vF_bd HV.out o (List.mem_of_getElem? ho)
            obtain ⟨m, hm⟩ : ∃ m, m = b.toNat := ⟨_, rfl⟩
            rw [← hm] at hbn hbi ho
            subst hbn
            have HMB : Hid (m = (m : Int).toNat) := dhid (by simp)
            have h0V : 0 < V.length := by omega
            obtain ⟨g1, k1, e1, hg1, hc1⟩ := owns1_at HSX.out.o h0V
            obtain ⟨g2, k2, e2, hg2, hc2⟩ := owns1_at HSX.out.d h0V
            have y1 := hc1 _ _ (vtC_at ho)
            have y2 := hc2 _ _ (vdC_at ho)
            obtain ⟨ot, od⟩ := o
            simp only at y1 y2 hob
            have hmI : (m : Int) < (V.length : Int) := by omega
            have hVi : V.length ≤ 30 := by rw [HVL.out]; omega
            have hw1 : IntKind.i64.wrap (od + 1) = od + 1 := by rw [IntKind.wrap_i64]; omega
            have HO := dhid ho
            have HSX2 := HSX
            rw [e1, e2] at HSX2
            subst e1 e2
            have hotI : (ot.size : Int) ≤ 4000 := by omega
            have HBF := dhid HSX.out.below
            clear hc1 hc2 hm ho HSX hg1 hg2
            by_cases hde : d = ⟨#[]⟩
            · subst hde
              by_cases hd6 : od + 1 ≤ 6
              · have hd6I : ¬ 6 < od + 1 := by omega
                have HPOK : Hid (∀ w', Below w.heap.size w w' → Calls Try.prog 68 #[.int .i64 (ot.size : Int), .slice a1 np c1] w' fun e w2 => e = .returned (.bool (pcB (pcF p) p.length (ot.size : Int))) ∧ Below w'.heap.size w' w2) := fun w' hb' => by
                  have h1 := HPA.out w' hb'
                  rw [HNP.out] at h1 ⊢
                  exact spcs_any _ p.length (pcF p) (ot.size : Int) w' HLX.out.2.2 h1
                by_cases hr : pcR (pcF p) p.length (ot.size : Int)
                · rw [pcB_yes hr] at HPOK
                  have HMK : Hid (vF L (i + 1) = some (V ++ [⟨patB ot (pcF p) p.length, od + 1⟩])) := by
                    show vF L (i + 1) = _
                    rw [vF_succ HV.out HXI.out, mkV_on (by show (0 : Int) ≤ (m : Int); omega) (by show V[(m : Int).toNat]? = _; rw [← HMB.out]; exact HO.out) rfl hr hd6]; rfl
                  have HPT : Hid (∀ w', Below w.heap.size w w' → Calls Try.prog 69 #[.string ot, .slice a1 np c1] w' fun e w2 => e = .returned (.string (patB ot (pcF p) p.length)) ∧ Below w'.heap.size w' w2) := fun w' hb' => by
                    obtain ⟨a9, c9, e9, h9⟩ := HPA.out w' hb'
                    cases e9
                    rw [HNP.out] at h9 ⊢
                    exact spat9 ot a1 c1 p.length (pcF p) w' hr h9
                  generalize patB ot (pcF p) p.length = X at HMK HPT
                  clear hr HLX hd6
                  go_wp2_with fail
                  refine (HIY.out _ _ _ _ hin.1 hin.2).mono ?_
                  rintro e w1 ⟨rfl, hw1⟩
                  subst w1
                  clear hin x0 x1 x2
                  go_wp2_with fail
                  refine (HPOK.out _ HBF.out).mono ?_
                  rintro e w1 ⟨rfl, hb1⟩
                  have HSY := dhid (HSX2.out.call hb1)
                  have HBY := dhid HSY.out.below
                  have z2 := (hb1.cell (p := ⟨wr.heap.size, 2, none⟩) (by simp)).trans (cell_of_row _ _ 2 _ _ _ (heap_alloc_new wr (.cells #[.int .i64 (m : Int), .string ⟨#[]⟩, .slice a1 np c1] 54)))
                  clear hb1 y1 y2 HSX2 HPOK
                  go_wp2_with fail
                  refine (HPT.out _ HBY.out).mono ?_
                  rintro e w2 ⟨rfl, hb2⟩
                  have HSZ := dhid (HSY.out.call hb2)
                  have hsz1 : w.heap.size ≤ w2.heap.size := HSZ.out.below.size
                  clear hb2 HSY HBY HPT z2
                  have hown := HSZ.out.o
                  go_wp2_with (at_builtin; (refine wpList_append_own _ rfl _ _ 49 rfl w.heap.size 9 iS _ 1 16 Try.underlying49 hiS hzS0 hzS1 hzS2 rfl (by decide) _ _ _ rfl (hown.alloc _) ⟨w2.heap.size, 0, none⟩ 1 1 [_] rfl rfl (cell_one_at (by simp)) ?c2 ?c3 ?c4 ?c5 ?_))
                  case c2 => simp [Value.oneCell']
                  case c3 => unfold maxLen; omega
                  case c4 => omega
                  case c5 => simp; omega
                  intro ov' w4 hown1 hgrow1 _
                  have hdx := ((HSZ.out).call ((Below.refl _ _).alloc (Nat.le_refl _) (.cells #[.string X] 9)))
                  have hd4w : w4.ownsRow w.heap.size 2 1 _ V.length (vdC V) := hdx.d.kept hgrow1 (rows_apart hdx.d hdx.o (by decide))
                  have hb4w : Below w.heap.size w w4 := hdx.below.grown hgrow1 hdx.below.size (fun k hk => (hdx.o.lt k hk).1)
                  have HO1 := dhid hown1
                  have HG1 := dhid hgrow1
                  have HB4 := dhid hb4w
                  have hsz4 : w.heap.size ≤ w4.heap.size := hb4w.size
                  clear hown1 hgrow1 hown hdx hb4w
                  go_wp2_with (at_builtin; (refine wpList_append_own _ rfl _ _ 82 rfl w.heap.size 2 iI _ 1 8 Try.underlying82 hiI hzI0 hzI1 hzI2 rfl (by decide) _ _ _ rfl (hd4w.alloc _) ⟨w4.heap.size, 0, none⟩ 1 1 [_] rfl rfl (cell_one_new _ _ _) ?c2 ?c3 ?c4 ?c5 ?_))
                  case c2 => simp [Value.oneCell']
                  case c3 => unfold maxLen; omega
                  case c4 => omega
                  case c5 => simp; omega
                  intro dv' w5 hown2 hgrow2 _
                  have HNEW : Hid (SV w w5 (V ++ [⟨X, (od + 1)⟩]) ov' dv') := (HSZ.out).more (x := ⟨X, (od + 1)⟩) _ ((Below.refl _ _).alloc (Nat.le_refl _) _) HO1.out HG1.out _ ((Below.refl _ _).alloc (Nat.le_refl _) _) hown2 hgrow2
                  clear hown2 hgrow2 hd4w HO1 HG1 HB4
                  go_wp2_with fail
                  go_roundw
                  case rel => exact ⟨i + 1, _, by omega, by go_num, HMK, HNEW⟩
                  case measure => simp [intN]; omega
                · rw [pcB_no hr] at HPOK
                  have HBAD : Hid (vAll L = none) := vAll_bad HV.out HXI.out (mkV_on_no (by show (0 : Int) ≤ (m : Int); omega) (by show V[(m : Int).toNat]? = _; rw [← HMB.out]; exact HO.out) fun c => hr c.2.1)
                  have HBX9 := HBF
                  clear HBF hr hd6 HLX
                  go_wp2_with fail
                  refine (HIY.out _ _ _ _ hin.1 hin.2).mono ?_
                  rintro e w1 ⟨rfl, hw1⟩
                  subst w1
                  clear hin x0 x1 x2
                  go_wp2_with fail
                  refine (HPOK.out _ HBX9.out).mono ?_
                  rintro e w1 ⟨rfl, hb1⟩
                  have HBF := dhid (dblow HBX9.out hb1 HBX9.out.size)
                  clear hb1
                  skip
                  go_wp2_with fail
                  go_ret2
                  exact ⟨by rw [HBAD.out]; exact rfl, HBF.out⟩
              · have hd6I : 6 < od + 1 := by omega
                have HBAD : Hid (vAll L = none) := vAll_bad HV.out HXI.out (mkV_on_no (by show (0 : Int) ≤ (m : Int); omega) (by show V[(m : Int).toNat]? = _; rw [← HMB.out]; exact HO.out) fun c => hd6 c.2.2)
                clear hd6 HLX
                go_wp2_with fail
                refine (HIY.out _ _ _ _ hin.1 hin.2).mono ?_
                rintro e w1 ⟨rfl, hw1⟩
                subst w1
                clear hin x0 x1 x2
                go_wp2_with fail
                go_ret2
                exact ⟨by rw [HBAD.out]; exact rfl, HBF.out⟩
            · have hne := d_ne hde
              have HBAD : Hid (vAll L = none) := vAll_bad HV.out HXI.out (mkV_on_no (by show (0 : Int) ≤ (m : Int); omega) (by show V[(m : Int).toNat]? = _; rw [← HMB.out]; exact HO.out) fun c => hde c.1)
              clear hde HLX
              go_wp2_with fail
              refine (HIY.out _ _ _ _ hin.1 hin.2).mono ?_
              rintro e w1 ⟨rfl, hw1⟩
              subst w1
              clear hin x0 x1 x2
              go_wp2_with fail
              go_ret2
              exact ⟨by rw [HBAD.out]; exact rfl, HBF.out⟩
        · have hd4I : (4000 : Int) < (d.size : Int) := by omega
          have HBAD : Hid (vAll L = none) := by
            by_cases hb0 : b < 0
            · exact vAll_bad HV.out HXI.out (mkV_base_no (by show b = -1; omega) fun c => hd4 c.2)
            · have hbi : b.toNat < V.length := by rw [HVL.out]; omega
              exact vAll_bad HV.out HXI.out (mkV_on_no (by show 0 ≤ b; omega) (List.getElem?_eq_getElem hbi) fun c => hd4 (by have e : d = ⟨#[]⟩ := c.1; rw [e]; decide))
          have HBF := dhid HSX.out.below
          go_wp2_with fail
          refine (HIY.out _ _ _ _ hin.1 hin.2).mono ?_
          rintro e w1 ⟨rfl, hw1⟩
          subst w1
          clear hin x0 x1 x2
          go_wp2_with fail
          go_ret2
          exact ⟨by rw [HBAD.out]; exact rfl, HBF.out⟩
      · have HBAD : Hid (vAll L = none) := by
          by_cases hb0 : 0 ≤ b
          · exact vAll_bad HV.out HXI.out (mkV_out (by show b ≠ -1; omega) (by show V[b.toNat]? = none; rw [List.getElem?_eq_none]; rw [HVL.out]; omega))
          · exact vAll_bad HV.out HXI.out (mkV_low (by show b ≠ -1; omega) hb0)
        have HBF := dhid HSX.out.below
        have HINN := dhid hin
        clear hin
        go_wp2_with fail
        refine (HIN.out _ _ _ _ HINN.out).mono ?_
        rintro e w1 ⟨rfl, hw1⟩
        subst w1
        clear x0 x1 x2
        go_wp2_with fail
        go_ret2
        exact ⟨by rw [HBAD.out]; exact rfl, HBF.out⟩
    · obtain rfl : i = n := by omega
      have hA : vAll L = some V := vAll_good (by rw [← HX.out.1]; exact HV.out) (by rw [← HX.out.1]; exact hn)
      have HA := dhid hA
      clear hA hVl
      go_wp2_with fail
      go_ret2
      refine ⟨?_, HB.out.below⟩
      rw [HA.out]
      exact ⟨_, rfl, HB.out.o⟩
set_option maxRecDepth 100000 in
theorem sv_zero (a : Option Addr) (c : Nat) (w : World) :
    Calls Try.prog 38 #[.slice a 0 c] w fun e w' => SvPost w (vAll []) e w' := by
  have HA : Hid (vAll [] = some []) := vAll_good rfl (by decide)
  have HO : Hid (((w.alloc (.cells #[] 9)).alloc (.cells #[] 2)).ownsRow w.heap.size 9 1 (.slice (some ⟨w.heap.size, 0, none⟩) 0 0) 0 [] ∧ Below w.heap.size w ((w.alloc (.cells #[] 9)).alloc (.cells #[] 2))) :=
    ⟨owns_call (World.ownsRow_made w #[] 0 (Nat.le_refl _) (by unfold maxLen; omega) rfl) ((Below.refl _ _).alloc (Nat.le_refl _) _), allocs_low [_, _] w⟩
  go_enter Try.func38, Try.ntmps38
  go_wp2_with fail
  refine wp_loop_rounds 1 ?_
  rw [rounds_succ]
  go_wp2_with fail
  go_ret2
  refine ⟨?_, HO.out.2⟩
  rw [HA.out]
  exact ⟨_, rfl, HO.out.1⟩
set_option maxRecDepth 100000 in
theorem sv_long (a : Option Addr) (n c : Nat) (L : List LkI) (hLn : n = L.length) (w : World) (hn : ¬ n ≤ 30) (hm : n ≤ 1048576) :
    Calls Try.prog 38 #[.slice a n c] w fun e w' => SvPost w (vAll L) e w' := by
  have hnI : (30 : Int) < (n : Int) := by omega
  have HA : Hid (vAll L = none) := vAll_long (by omega)
  go_enter Try.func38, Try.ntmps38
  go_wp2_with fail
  go_ret2
  exact ⟨by rw [HA.out]; exact rfl, Below.refl _ _⟩
theorem sv_any (v : Value) (L : List LkI) (bs : List Nat) (w : World) (hl : LkLe L) (h : Hd w (lksD L) v bs) :
    Calls Try.prog 38 #[v] w fun e w' => SvPost w (vAll L) e w' := by
  obtain ⟨a, c, rfl, hx⟩ := lks_at h
  by_cases hn : L.length ≤ 30
  · by_cases h0 : 0 < L.length
    · obtain ⟨g, rfl, hg⟩ := hx h0
      exact sv_some g c L.length L rfl w hl hn hg
    · have e0 : L = [] := List.length_eq_zero_iff.1 (by omega)
      subst e0
      exact sv_zero a c w
  · exact sv_long a L.length c L rfl w hn hl.len
end Go.Proofs.Ytpeddaljgmkomaa

/-!   The specification's ChainOk, VersionAt, DepthAt. -/
namespace Go.Proofs.Ytpeddaljgmkomaa
open Go.RowKit
set_option linter.unusedVariables false
set_option linter.unusedSimpArgs false
set_option maxRecDepth 100000 in
theorem schain_any (v : Value) (L : List LkI) (bs : List Nat) (w : World) (hl : LkLe L) (h : Hd w (lksD L) v bs) :
    Calls Try.prog 14 #[v] w fun e w' => e = .returned (.bool (chB L)) ∧ Below w.heap.size w w' := by
  obtain ⟨a, n, c, rfl, _⟩ := h.rd.slice
  have HVS : Hid (Calls Try.prog 38 #[.slice a n c] w fun e w2 => SvPost w (vAll L) e w2) := sv_any _ L bs w hl h
  clear h
  go_enter Try.func14, Try.ntmps14
  go_wp2_with fail
  refine HVS.out.mono ?_
  rintro e w3 ⟨hpost, hb3⟩
  have HB3 := dhid hb3
  clear hb3
  cases hA : vAll L with
  | none =>
    rw [hA] at hpost
    obtain rfl := hpost
    have HCB : Hid (chB L = false) := by unfold chB; rw [hA]; exact rfl
    clear hA HVS
    go_wp2_with fail
    go_ret
    exact ⟨by rw [HCB.out]; rfl, HB3.out⟩
  | some V =>
    rw [hA] at hpost
    obtain ⟨x, rfl, hm⟩ := hpost
    have HCB : Hid (chB L = true) := by unfold chB; rw [hA]; exact rfl
    clear hA hm HVS
    go_wp2_with fail
    go_ret
    exact ⟨by rw [HCB.out]; rfl, HB3.out⟩
theorem verOf_low {L : List LkI} {k : Int} {V : List VerI} (hA : vAll L = some V) (h : ¬ (0 ≤ k ∧ k ≤ (L.length : Int) - 1)) : verOf L k = none := by
  have hl := (vAll_some hA).2.2
  unfold verOf
  rw [hA]
  show (if 0 ≤ k then V[k.toNat]? else none) = none
  split
  · rw [List.getElem?_eq_none]; omega
  · rfl
theorem verOf_at {L : List LkI} {k : Int} {V : List VerI} (hA : vAll L = some V) (h : 0 ≤ k ∧ k ≤ (L.length : Int) - 1) : ∃ y, V[k.toNat]? = some y ∧ verOf L k = some y := by
  have hl := (vAll_some hA).2.2
  have hk : k.toNat < V.length := by omega
  refine ⟨V[k.toNat], List.getElem?_eq_getElem hk, ?_⟩
  unfold verOf
  rw [hA]
  show (if 0 ≤ k then V[k.toNat]? else none) = _
  rw [if_pos h.1, List.getElem?_eq_getElem hk]
set_option maxRecDepth 100000 in
set_option maxHeartbeats 1000000 in
theorem sverAt_any (v : Value) (L : List LkI) (bs : List Nat) (k : Int) (w : World) (hl : LkLe L) (h : Hd w (lksD L) v bs) :
    Calls Try.prog 18 #[v, .int .i64 k] w fun e w' => e = .returned (.tuple #[.string ((verOf L k).getD ver0).t, .bool (verOf L k).isSome]) ∧ Below w.heap.size w w' := by
  obtain ⟨a, c, rfl, _⟩ := lks_at h
  have HVS : Hid (Calls Try.prog 38 #[.slice a L.length c] w fun e w2 => SvPost w (vAll L) e w2) := sv_any _ L bs w hl h
  have HIY : Hid (∀ (x lo hi : Int) w, lo ≤ x → x ≤ hi → Calls Try.prog 42 #[.int .i64 x, .int .i64 lo, .int .i64 hi] w fun e w' => e = .returned (.bool true) ∧ w' = w) := fun x lo hi w h1 h2 => in_yes x lo hi w h1 h2
  have HIN : Hid (∀ (x lo hi : Int) w, ¬ (lo ≤ x ∧ x ≤ hi) → Calls Try.prog 42 #[.int .i64 x, .int .i64 lo, .int .i64 hi] w fun e w' => e = .returned (.bool false) ∧ w' = w) := fun x lo hi w h => in_no x lo hi w h
  have HLEN := hl.len
  obtain ⟨n, hn⟩ : ∃ n, n = L.length := ⟨_, rfl⟩
  rw [← hn] at HVS HLEN ⊢
  have HN := dhid hn
  have hw1 : IntKind.i64.wrap ((n : Int) - 1) = (n : Int) - 1 := by rw [IntKind.wrap_i64]; omega
  clear h hn
  go_enter Try.func18, Try.ntmps18
  go_wp2_with fail
  refine HVS.out.mono ?_
  rintro e w3 ⟨hpost, hb3⟩
  have HB3 := dhid hb3
  clear hb3
  cases hA : vAll L with
  | none =>
    rw [hA] at hpost
    obtain rfl := hpost
    have HVV := dhid (verOf_none (k := k) hA)
    clear hA HVS
    go_wp2_with fail
    go_ret2
    exact ⟨by rw [HVV.out]; rfl, HB3.out⟩
  | some V =>
    rw [hA] at hpost
    obtain ⟨x, rfl, hm⟩ := hpost
    by_cases hin : 0 ≤ k ∧ k ≤ (n : Int) - 1
    · obtain ⟨y, hy, hv⟩ := verOf_at hA (by rw [← HN.out]; exact hin)
      have HVV := dhid hv
      have hVl := (vAll_some hA).2.2
      have h0V : 0 < V.length := by rw [hVl, ← HN.out]; omega
      obtain ⟨g1, k1, rfl, hg1, hc1⟩ := owns1_at hm h0V
      have y1 := hc1 _ _ (vtC_at hy)
      obtain ⟨m, hmk⟩ : ∃ m, m = k.toNat := ⟨_, rfl⟩
      rw [← hmk] at y1 hy
      obtain rfl : (m : Int) = k := by omega
      have hVn : V.length = n := by rw [hVl, HN.out]
      rw [hVn]
      have hmI : (m : Int) < (n : Int) := by omega
      clear hA HVS hm hc1 hmk hVl hVn hy hv
      go_wp2_with fail
      refine (HIY.out _ _ _ _ hin.1 hin.2).mono ?_
      rintro e w1 ⟨rfl, hw1⟩
      subst w1
      clear hin
      go_wp2_with fail
      go_ret2
      exact ⟨by rw [HVV.out]; rfl, HB3.out⟩
    · have HVV := dhid (verOf_low hA (by rw [← HN.out]; exact hin))
      have HINN := dhid hin
      clear hA HVS hm hin
      go_wp2_with fail
      refine (HIN.out _ _ _ _ HINN.out).mono ?_
      rintro e w1 ⟨rfl, hw1⟩
      subst w1
      go_wp2_with fail
      go_ret2
      exact ⟨by rw [HVV.out]; rfl, HB3.out⟩
set_option maxRecDepth 100000 in
set_option maxHeartbeats 1000000 in
theorem sdepth_any (g n c : Nat) (L : List LkI) (hLn : n = L.length) (V : List VerI) (m : Nat) (y : VerI) (w : World) (hA : vAll L = some V) (hm : V[m]? = some y) (hg : LkCells w g L) :
    Calls Try.prog 44 #[.slice (some ⟨g, 0, none⟩) n c, .int .i64 (m : Int)] w fun e w' => e = .returned (.int .i64 y.d) ∧ Below w.heap.size w w' := by
  obtain ⟨hL30, hVF, hVl⟩ := vAll_some hA
  have hml := (List.getElem?_eq_some_iff.1 hm).1
  have hyb := vF_bd hVF y (List.mem_of_getElem? hm)
  have hn30 : n ≤ 30 := by omega
  have HX : Hid (n = L.length ∧ LkCells w g L ∧ vF L L.length = some V ∧ V.length = L.length) := ⟨hLn, hg, hVF, hVl⟩
  have hml2 : m < n := by omega
  have HYB : Hid (0 ≤ y.d ∧ y.d ≤ 6) := hyb.2
  have HM0 := dhid hm
  clear hg hVF hVl hA hL30 hLn hml hm hyb
  go_enter Try.func44, Try.ntmps44
  go_wp2_with fail
  go_loopw [1, 5] (fun v u wr => ∃ (i : Nat) (x : VerI) (d : Int), i < n ∧ v = .int .i64 (i : Int) ∧ u = .int .i64 d ∧ Hid (V[i]? = some x ∧ d + x.d = y.d) ∧ 0 ≤ d ∧ Hid (Below w.heap.size w wr)) (fun v _ _ => (intN v).toNat)
  case atStart => exact ⟨m, y, 0, hml2, rfl, rfl, ⟨HM0.out, by omega⟩, by omega, Below.refl _ _⟩
  case round =>
    obtain ⟨i, x, d, hi, rfl, rfl, HV, hd0, HB⟩ := hrel
    have hx := List.getElem?_eq_getElem (l := L) (i := i) (by have := HX.out.1; omega)
    obtain ⟨v2, hv2, hcase⟩ := vF_deep HX.out.2.2.1 (by have := HX.out.1; omega) hx
    have hvx : v2 = x := by have := HV.out.1; rw [this] at hv2; injection hv2 with hv2; exact hv2.symm
    subst hvx
    obtain ⟨pv, bs, x0, x1, x2, hd⟩ := HX.out.2.1.2 i _ hx
    have hgl := HX.out.2.1.1
    have hxb := vF_bd HX.out.2.2.1 v2 (List.mem_of_getElem? hv2)
    generalize L[i]'_ = l at hx hcase x0 x1 x2 hd
    obtain ⟨q, hq⟩ : ∃ q, q = 3 * i := ⟨_, rfl⟩
    have hiq : i * 3 = q := by omega
    rw [← hq] at x0
    rw [← HB.out.cell (p := ⟨g, q, none⟩) hgl] at x0
    have hltI : (i : Int) < (n : Int) := by omega
    have hdle : d ≤ 6 := by have := HV.out.2; have := HYB.out; omega
    have hw1 : IntKind.i64.wrap (d + 1) = d + 1 := by rw [IntKind.wrap_i64]; omega
    clear x1 x2 hd hgl hq hx
    rcases hcase with ⟨hb, hxd⟩ | ⟨hb, hbi, o, ho, hxd⟩
    · rw [hb] at x0
      have HE : Hid (d = y.d) := by have := HV.out.2; show d = y.d; omega
      clear hb hxd HV hxb
      go_wp2_with fail
      go_ret
      exact ⟨by rw [HE.out]; rfl, HB.out⟩
    · obtain ⟨j, hj⟩ : ∃ j, j = l.b.toNat := ⟨_, rfl⟩
      have hjI : l.b = (j : Int) := by omega
      rw [← hj] at hbi ho
      rw [hjI] at x0
      have HN : Hid (V[j]? = some o ∧ d + 1 + o.d = y.d) := ⟨ho, by have := HV.out.2; omega⟩
      clear hb hxd HV hxb ho hj hjI
      go_wp2_with fail
      go_roundw
      case rel => exact ⟨j, o, d + 1, by omega, rfl, rfl, HN, by omega, HB⟩
      case measure => simp [intN]; omega
set_option maxRecDepth 100000 in
set_option maxHeartbeats 1000000 in
theorem sdepAt_any (v : Value) (L : List LkI) (bs : List Nat) (k : Int) (w : World) (hl : LkLe L) (h : Hd w (lksD L) v bs) :
    Calls Try.prog 20 #[v, .int .i64 k] w fun e w' => e = .returned (.int .i64 (depI L k)) ∧ Below w.heap.size w w' := by
  obtain ⟨a, c, rfl, hx⟩ := lks_at h
  have HVS : Hid (Calls Try.prog 14 #[.slice a L.length c] w fun e w' => e = .returned (.bool (chB L)) ∧ Below w.heap.size w w') := schain_any _ L bs w hl h
  have HIY : Hid (∀ (x lo hi : Int) w, lo ≤ x → x ≤ hi → Calls Try.prog 42 #[.int .i64 x, .int .i64 lo, .int .i64 hi] w fun e w' => e = .returned (.bool true) ∧ w' = w) := fun x lo hi w h1 h2 => in_yes x lo hi w h1 h2
  have HIN : Hid (∀ (x lo hi : Int) w, ¬ (lo ≤ x ∧ x ≤ hi) → Calls Try.prog 42 #[.int .i64 x, .int .i64 lo, .int .i64 hi] w fun e w' => e = .returned (.bool false) ∧ w' = w) := fun x lo hi w h => in_no x lo hi w h
  have HLEN := hl.len
  obtain ⟨n, hn⟩ : ∃ n, n = L.length := ⟨_, rfl⟩
  rw [← hn] at HVS HLEN hx ⊢
  have HN := dhid hn
  have HX := dhid hx
  have hw1 : IntKind.i64.wrap ((n : Int) - 1) = (n : Int) - 1 := by rw [IntKind.wrap_i64]; omega
  clear h hn hx
  cases hA : vAll L with
  | none =>
    have hcb : chB L = false := by unfold chB; rw [hA]; rfl
    rw [hcb] at HVS
    have HVV : Hid (depI L k = -1) := by show depI L k = -1; unfold depI; rw [verOf_none hA]; rfl
    clear hA hcb
    go_enter Try.func20, Try.ntmps20
    go_wp2_with fail
    refine HVS.out.mono ?_
    rintro e w3 ⟨rfl, hb3⟩
    have HB3 := dhid hb3
    clear hb3 HVS
    go_wp2_with fail
    go_ret
    exact ⟨by rw [HVV.out]; rfl, HB3.out⟩
  | some V =>
    have hcb : chB L = true := by unfold chB; rw [hA]; rfl
    rw [hcb] at HVS
    by_cases hin : 0 ≤ k ∧ k ≤ (n : Int) - 1
    · obtain ⟨y, hy, hv⟩ := verOf_at hA (by rw [← HN.out]; exact hin)
      have HVV : Hid (depI L k = y.d) := by show depI L k = y.d; unfold depI; rw [hv]; rfl
      obtain ⟨m, hmk⟩ : ∃ m, m = k.toNat := ⟨_, rfl⟩
      rw [← hmk] at hy
      obtain rfl : (m : Int) = k := by omega
      obtain ⟨g, rfl, hg⟩ := HX.out (by omega)
      have HD : Hid (∀ w', Below w.heap.size w w' → Calls Try.prog 44 #[.slice (some ⟨g, 0, none⟩) n c, .int .i64 (m : Int)] w' fun e w2 => e = .returned (.int .i64 y.d) ∧ Below w'.heap.size w' w2) := fun w' hb => sdepth_any g n c L HN.out V m y w' hA hy (hg.under hb)
      clear hA hcb hg hy hv hmk
      go_enter Try.func20, Try.ntmps20
      go_wp2_with fail
      refine HVS.out.mono ?_
      rintro e w3 ⟨rfl, hb3⟩
      have HB3 := dhid hb3
      clear hb3 HVS
      go_wp2_with fail
      refine (HIY.out _ _ _ _ hin.1 hin.2).mono ?_
      rintro e w1 ⟨rfl, hw1⟩
      subst w1
      clear hin
      go_wp2_with fail
      refine (HD.out _ HB3.out).mono ?_
      rintro e w4 ⟨rfl, hb4⟩
      have HB4 := dhid (dblow HB3.out hb4 HB3.out.size)
      clear hb4 HD
      go_wp2_with fail
      go_ret
      exact ⟨by rw [HVV.out]; rfl, HB4.out⟩
    · have HVV : Hid (depI L k = -1) := by show depI L k = -1; unfold depI; rw [verOf_low hA (by rw [← HN.out]; exact hin)]; rfl
      have HINN := dhid hin
      clear hA hcb hin
      go_enter Try.func20, Try.ntmps20
      go_wp2_with fail
      refine HVS.out.mono ?_
      rintro e w3 ⟨rfl, hb3⟩
      have HB3 := dhid hb3
      clear hb3 HVS
      go_wp2_with fail
      refine (HIN.out _ _ _ _ HINN.out).mono ?_
      rintro e w1 ⟨rfl, hw1⟩
      subst w1
      go_wp2_with fail
      go_ret
      exact ⟨by rw [HVV.out]; rfl, HB3.out⟩
end Go.Proofs.Ytpeddaljgmkomaa

/-!   A version made whole: the code's. -/
namespace Go.Proofs.Ytpeddaljgmkomaa
open Go.RowKit
set_option linter.unusedVariables false
set_option linter.unusedSimpArgs false
/-- what a function tells that answers a chain -/
def LkPost (w : World) (R : Option (List LkI)) (e : Ending) (w' : World) : Prop := (∃ v, e = .returned (.tuple #[v, .bool R.isSome]) ∧ Own w' w.heap.size (lksD (R.getD [])) v) ∧ Below w.heap.size w w'
theorem LkPost.no {w w' : World} {R : Option (List LkI)} (h : R = none) (hb : Below w.heap.size w w') : LkPost w R (.returned (.tuple #[.slice none 0 0, .bool false])) w' := by
  subst h
  exact ⟨⟨_, rfl, [], .nil _ _ _ _, List.nodup_nil, fun b hb => by cases hb⟩, hb⟩
theorem LkPost.yes {w w' : World} {R : Option (List LkI)} {M : List LkI} {v : Value} (h : R = some M) (ho : Own w' w.heap.size (lksD M) v) (hb : Below w.heap.size w w') : LkPost w R (.returned (.tuple #[v, .bool true])) w' := by
  subst h
  exact ⟨⟨_, rfl, ho⟩, hb⟩
noncomputable def whR (L : List LkI) (k : Int) : Option (List LkI) := (verOf L k).map fun y => L.set k.toNat ⟨-1, y.t, []⟩
theorem verOf_in {L : List LkI} {k : Int} {y : VerI} (h : verOf L k = some y) : ∃ V, vAll L = some V ∧ 0 ≤ k ∧ k.toNat < L.length ∧ V[k.toNat]? = some y := by
  unfold verOf at h
  cases hA : vAll L with
  | none => rw [hA] at h; cases h
  | some V =>
    rw [hA] at h
    have h : (if 0 ≤ k then V[k.toNat]? else none) = some y := h
    split at h
    · rename_i h0
      refine ⟨V, rfl, h0, ?_, h⟩
      have := (List.getElem?_eq_some_iff.1 h).1
      have := (vAll_some hA).2.2
      omega
    · cases h
set_option maxRecDepth 100000 in
set_option maxHeartbeats 2000000 in
theorem whole_any (v : Value) (L : List LkI) (bs : List Nat) (k : Int) (w : World) (hk : (Lit.int .i64 k).wf = true) (hl : LkLe L) (h : Hd w (lksD L) v bs) :
    Calls Try.prog 27 #[v, .int .i64 k] w fun e w' => LkPost w (whR L k) e w' := by
  obtain ⟨a, n, c, rfl, _⟩ := h.rd.slice
  have HVS : Hid (Calls Try.prog 43 #[.slice a n c, .int .i64 k] w fun e w' => e = .returned (.tuple #[verV ((verOf L k).getD ver0), .bool (verOf L k).isSome]) ∧ Below w.heap.size w w') := verOf_any _ L bs k w hk hl h
  unfold verV at HVS
  cases hv : verOf L k with
  | none =>
    rw [hv] at HVS
    have HR : Hid (whR L k = none) := by show whR L k = none; unfold whR; rw [hv]; rfl
    have HVS2 : Hid (Calls Try.prog 43 #[.slice a n c, .int .i64 k] w fun e w' => e = .returned (.tuple #[.agg #[.string ⟨#[]⟩, .int .i64 0], .bool false]) ∧ Below w.heap.size w w') := HVS
    clear h hv HVS
    go_enter Try.func27, Try.ntmps27
    go_wp2_with fail
    refine HVS2.out.mono ?_
    rintro e w3 ⟨rfl, hb3⟩
    have HB3 := dhid (hb3.alloc hb3.size (.cells #[.string ⟨#[]⟩, .int .i64 0] 62))
    clear hb3 HVS2
    go_wp2_with fail
    go_ret2
    exact LkPost.no HR.out HB3.out
  | some y =>
    rw [hv] at HVS
    have HR : Hid (whR L k = some (L.set k.toNat ⟨-1, y.t, []⟩)) := by show whR L k = _; unfold whR; rw [hv]; rfl
    obtain ⟨V, hA, hk0, hkl, hy⟩ := verOf_in hv
    have hG := lkG_of hl hA
    have hn30 := (vAll_some hA).1
    obtain ⟨t, d⟩ := y
    simp only at HR
    obtain ⟨m, hm⟩ : ∃ m, m = k.toNat := ⟨_, rfl⟩
    rw [← hm] at HR hkl
    obtain rfl : (m : Int) = k := by omega
    have HVS2 : Hid (Calls Try.prog 43 #[.slice a n c, .int .i64 (m : Int)] w fun e w' => e = .returned (.tuple #[.agg #[.string t, .int .i64 d], .bool true]) ∧ Below w.heap.size w w') := HVS
    have HW : Hid (∀ w', Below w.heap.size w w' → Calls Try.prog 54 #[.slice a n c, .int .i64 (m : Int), .agg #[.int .i64 (-1), .string t, .slice none 0 0]] w' fun e w2 => (∃ v', e = .returned v' ∧ Own w2 w'.heap.size (lksD (L.set m ⟨-1, t, []⟩)) v') ∧ Below w'.heap.size w' w2) := fun w' hb => withLk_any _ L bs m ⟨-1, t, []⟩ (.slice none 0 0) w'.heap.size w' hn30 hkl hG (h.under hb) ⟨[], .nil _ _ _ _, List.nodup_nil, fun b hb => by cases hb⟩ (Nat.le_refl _)
    clear h hv HVS hA hk0 hkl hy hG hn30 hm hk
    go_enter Try.func27, Try.ntmps27
    go_wp2_with fail
    refine HVS2.out.mono ?_
    rintro e w3 ⟨rfl, hb3⟩
    have HB3 := dhid (hb3.alloc hb3.size (.cells #[.string t, .int .i64 d] 62))
    clear hb3 HVS2
    go_wp2_with fail
    refine (HW.out _ HB3.out).mono ?_
    rintro e w4 ⟨⟨v', rfl, ho⟩, hb4⟩
    have HB4 := dhid (dblow HB3.out hb4 HB3.out.size)
    have HO := dhid (ho.base HB3.out.size)
    clear hb4 ho HW
    go_wp2_with fail
    go_ret2
    exact LkPost.yes HR.out HO.out HB4.out
theorem wh_bd {L : List LkI} {k : Int} (hl : LkLe L) : ((whR L k).getD []).length ≤ 1048576 ∧ (∀ x ∈ (whR L k).getD [], x.p.length ≤ 1048576) ∧ 1 + lkMN ((whR L k).getD []) ≤ 4000000 := by
  cases hv : verOf L k with
  | none =>
    have e : whR L k = none := by unfold whR; rw [hv]; rfl
    rw [e]; exact bd_none
  | some y =>
    obtain ⟨V, hA, _⟩ := verOf_in hv
    have e : whR L k = some (L.set k.toNat ⟨-1, y.t, []⟩) := by unfold whR; rw [hv]; rfl
    rw [e]; exact bd_set hl hA _ _ (by simp)
end Go.Proofs.Ytpeddaljgmkomaa
