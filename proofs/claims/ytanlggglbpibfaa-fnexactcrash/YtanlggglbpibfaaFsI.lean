/-
  A set of files: any deed; the set of a list of files.
-/
import Derived.Test.YtanlggglbpibfaaFsH
import Derived.Test.YtanlggglbpibfaaSfG
namespace Go.Proofs.Ytanlggglbpibfaa
open Go.RowKit
open Go.Maps (Keyed)
set_option linter.unusedVariables false
set_option linter.unusedSimpArgs false
def doG (L : List FlI) (o : DqI) : List FlI := (doF L o).getD L
theorem nm_ne {s : ByteArray} (h : nmOk s) : s ≠ ⟨#[]⟩ := by
  rintro rfl
  exact absurd h.1 (by decide)
theorem do15_any {lo p mb : Nat} {L : List FlI} {V : ByteArray → Value} (o : DqI) (w : World) (h : FsW w lo p mb L V (sumD L)) (ho : opP o) (hp : o.p.size ≤ 1500000) (hd : o.d.size ≤ 2000000) (hl : L.length ≤ 1000000) (hn : sumD L ≤ 50000000) :
    Calls Try.prog 49 #[.pointer (some ⟨p, 0, none⟩), dV o] w fun e w' => e = .returned (.tuple #[]) ∧ (∃ V', FsW w' lo p mb (doG L o) V' (sumD (doG L o))) ∧ BF lo p w w' := by
  obtain ⟨m, a, q, d⟩ := o
  have ha := nm_ne ho.2.1
  have hs : a.size ≤ 1500000 := by have := ho.2.1.2; have e : a.size ≤ 100 := this; omega
  have hm : m = 1 ∨ m = 2 ∨ m = 3 := by have := ho.1; have this : 1 ≤ m ∧ m ≤ 3 := this; omega
  rcases hm with rfl | rfl | rfl
  · have hz := (putF_size h.rise a (oldB L a ++ d)).2
    rw [ByteArray.size_append] at hz
    have hz : sumD (putF L a (oldB L a ++ d)) + (oldB L a).size = sumD L + ((oldB L a).size + d.size) := hz
    have hG : doG L ⟨1, a, q, d⟩ = putF L a (oldB L a ++ d) := rfl
    have hd : d.size ≤ 2000000 := hd
    rw [hG, dV1]
    exact doA_any a d w h hs hl hn hd (by omega) (by omega)
  · have hG : doG L ⟨2, a, q, d⟩ = match fdF L a with | none => L | some x => putF (cutF L a) q x := by
      unfold doG doF
      rw [if_neg (by show ¬ (2 : Int) = 1; omega)]
      show (match fdF L a with | none => none | some x => some (if (2 : Int) = 2 then putF (cutF L a) q x else cutF L a)).getD L = _
      cases fdF L a <;> rfl
    rw [hG, dV2]
    exact doN_any a q w h ha hs hp hl (by omega)
  · have hG : doG L ⟨3, a, q, d⟩ = cutF L a := by
      unfold doG doF
      rw [if_neg (by show ¬ (3 : Int) = 1; omega)]
      show (match fdF L a with | none => none | some x => some (if (3 : Int) = 2 then putF (cutF L a) q x else cutF L a)).getD L = _
      cases hf : fdF L a with
      | none => exact (cutF_id (fdF_none.1 hf)).symm
      | some x => rfl
    rw [hG, dV3]
    exact doM_any a w h ha hs (by omega)
theorem fn_nil {s : ByteArray} : fnL ⟨#[]⟩ s ↔ s ≠ ⟨#[]⟩ := by
  unfold fnL
  rw [emF_nil]
  constructor
  · rintro h rfl
    rw [emF_nil] at h
    cases h
  · intro h
    have := emF_no h
    cases hs : s.toList with
    | nil => rw [hs] at this; cases this
    | cons a l => rfl
theorem adj_lt {F : Nat → ByteArray} {i : Nat} (h : ∀ k, k < i → fnL (F k) (F (k + 1))) : ∀ d j, j + d + 1 ≤ i → fnL (F j) (F (j + d + 1))
  | 0, j, hj => h j (by omega)
  | d + 1, j, hj => fnL_trans (adj_lt h d j (by omega)) (h (j + d + 1) (by omega))
theorem put_next {L : List FlI} {i : Nat} (hi : i < L.length) (hT : fileT L i) (hr : ∀ j, j + 1 = i → fnL (flF L j).a (flF L i).a) : putF (L.take i) (flF L i).a (oldB (L.take i) (flF L i).a ++ (flF L i).d) = L.take (i + 1) := by
  have hb : ∀ f ∈ L.take i, fnL f.a (flF L i).a := fun f hf => by
    obtain ⟨j, h1, h2, rfl⟩ := take_mem hf
    have := adj_lt (F := fun k => (flF L k).a) (i := i) (fun k hk => by
      by_cases e : k + 1 = i
      · have := hr k e; rw [← e] at this; exact this
      · exact hT.2 k (by omega)) (i - j - 1) j (by omega)
    rw [show j + (i - j - 1) + 1 = i by omega] at this
    exact this
  have h0 : fdF (L.take i) (flF L i).a = none := fdF_none.2 fun f hf e => fnL_ne (hb f hf) e
  have h1 : oldB (L.take i) (flF L i).a = ⟨#[]⟩ := by unfold oldB; rw [h0]; rfl
  rw [h1, em_app, putF_below hb, take_snoc hi]
/-- the answer of setOf -/
def SetAns (w : World) (L : List FlI) (e : Ending) (w' : World) : Prop := (filesP L ∧ ∃ p mb V, e = .returned (.tuple #[.pointer (some ⟨p, 0, none⟩), .bool true]) ∧ FsW w' w.heap.size p mb L V (sumD L)) ∨ (¬ filesP L ∧ ∃ x, e = .returned (.tuple #[x, .bool false]))
theorem FsW.made (w : World) : FsW ((w.alloc (.map #[] 0)).alloc (.cells #[.map (some w.heap.size), .int .i64 ((0 : Nat) : Int)] 98)) w.heap.size (w.heap.size + 1) w.heap.size [] (fun _ => .slice none 0 0) 0 := by
  have hb := heap_alloc_new (w.alloc (.map #[] 0)) (.cells #[.map (some w.heap.size), .int .i64 ((0 : Nat) : Int)] 98)
  rw [World.size_alloc] at hb
  exact ⟨hb, ((MapF.made w Try.prog 9).under ((Below.refl _ _).alloc (Nat.le_refl _) _)).congr (fun kl _ => by cases kl <;> rfl), List.Pairwise.nil, FsR.none _ _ _, by omega, Nat.le_refl _⟩
set_option maxRecDepth 100000 in
set_option maxHeartbeats 2500000 in
theorem setOf_any (v : Value) (L : List FlI) (w : World) (hL : FlLe L) (h : FlV w v L) :
    Calls Try.prog 47 #[v] w fun e w' => SetAns w L e w' ∧ Below w.heap.size w w' := by
  obtain ⟨a, c, rfl, hr⟩ := h.arg
  have HR : Hid (∀ w', Below w.heap.size w w' → 0 < L.length → ∃ g, a = some ⟨g, 0, none⟩ ∧ FlRow w' g L.length (flF L)) := fun w' hb h0 => by
    obtain ⟨g, h1, h2⟩ := hr h0
    exact ⟨g, h1, h2.below hb h2.lt⟩
  have HNM : Hid (∀ (s : ByteArray) (w : World), Calls Try.prog 83 #[.string s] w fun e w' => e = .returned (.bool (decide (nmOk s))) ∧ w' = w) := name15_any
  have HDO : Hid (∀ p mb V M (fa fd : ByteArray) w', FsW w' w.heap.size p mb M V (sumD M) → nmOk fa → M.length ≤ 100 → sumD M ≤ 1000000 → fd.size ≤ 2000000 → Calls Try.prog 49 #[.pointer (some ⟨p, 0, none⟩), .iface 119 (.agg #[.string fa, .string fd])] w' fun e w'' => e = .returned (.tuple #[]) ∧ (∃ V', FsW w'' w.heap.size p mb (putF M fa (oldB M fa ++ fd)) V' (sumD (putF M fa (oldB M fa ++ fd)))) ∧ BF w.heap.size p w' w'') := fun p mb V M fa fd w' hF hn h1 h2 h3 => by
    have hz := (putF_size hF.rise fa (oldB M fa ++ fd)).2
    rw [ByteArray.size_append] at hz
    have hz : sumD (putF M fa (oldB M fa ++ fd)) + (oldB M fa).size = sumD M + ((oldB M fa).size + fd.size) := hz
    exact doA_any fa fd w' hF (by have := hn.2; omega) (by omega) (by omega) h3 (by omega) (by omega)
  have HFT : Hid (∀ p mb V M w', FsW w' w.heap.size p mb M V (sumD M) → Calls Try.prog 50 #[.pointer (some ⟨p, 0, none⟩)] w' fun e w'' => e = .returned (.bool (decide (M.length ≤ 60 ∧ sumD M ≤ 200000))) ∧ w'' = w') := fun p mb V M w' hF => fits15_any w' hF
  have HLE := hidF hL
  have hlen : (L.length : Int) ≤ 1100000 := by have := hL.len; omega
  have HM0 := hidF (FsW.made w)
  have HB0 : Hid (Below w.heap.size w ((w.alloc (.map #[] 0)).alloc (.cells #[.map (some w.heap.size), .int .i64 ((0 : Nat) : Int)] 98))) := ((Below.refl _ _).alloc (Nat.le_refl _) _).alloc (by rw [World.size_alloc]; omega) _
  have hmm := @run_makeMap Try.prog
  clear hr h hL
  go_enter Try.func47, Try.ntmps47
  go_wp2_with fail
  clear hmm
  try simp only [Int.Nat.cast_ofNat_Int] at HM0 HB0
  have HS0 : Hid (FsW ((w.alloc (.map #[] 0)).alloc (.cells #[.map (some w.heap.size), .int .i64 0] 98)) w.heap.size (w.heap.size + 1) w.heap.size (L.take 0) (fun _ => .slice none 0 0) (sumD (L.take 0)) ∧ fileT L 0 ∧ sumD (L.take 0) ≤ 200000 ∧ Below w.heap.size w ((w.alloc (.map #[] 0)).alloc (.cells #[.map (some w.heap.size), .int .i64 0] 98))) := ⟨HM0.out, fileT_zero L, Nat.zero_le _, HB0.out⟩
  have HA0 : Hid ((0 = 0 ∧ (⟨#[]⟩ : ByteArray) = ⟨#[]⟩) ∨ ∃ k, k + 1 = 0 ∧ (⟨#[]⟩ : ByteArray) = (flF L k).a) := Or.inl ⟨rfl, rfl⟩
  clear HM0 HB0
  generalize (w.alloc (.map #[] 0)).alloc (.cells #[.map (some w.heap.size), .int .i64 0] 98) = W1 at HS0 ⊢
  generalize hp : w.heap.size + 1 = p at HS0 ⊢
  obtain ⟨mb, hmb⟩ : ∃ mb, mb = w.heap.size := ⟨_, rfl⟩
  have HS1 : Hid (FsW W1 w.heap.size p mb (L.take 0) (fun _ => .slice none 0 0) (sumD (L.take 0)) ∧ fileT L 0 ∧ sumD (L.take 0) ≤ 200000 ∧ Below w.heap.size w W1) := by rw [hmb]; exact HS0.out
  clear hp hmb HS0
  go_loopw [5, 13] (fun x y wr => ∃ (i : Nat) (ah : ByteArray) (V : ByteArray → Value), i ≤ L.length ∧ i ≤ 60 ∧ x = .string ah ∧ y = .int .i64 (i : Int) ∧ Hid ((i = 0 ∧ ah = ⟨#[]⟩) ∨ ∃ k, k + 1 = i ∧ ah = (flF L k).a) ∧ Hid (FsW wr w.heap.size p mb (L.take i) V (sumD (L.take i)) ∧ fileT L i ∧ sumD (L.take i) ≤ 200000 ∧ Below w.heap.size w wr)) (fun _ y _ => L.length - (intFl y).toNat)
  case atStart => exact ⟨0, ⟨#[]⟩, _, by omega, by omega, rfl, rfl, HA0, HS1⟩
  case round =>
    clear HS1 HA0
    rename World => W0
    obtain ⟨i, ah, V, hi, hi60, rfl, rfl, HA, HS⟩ := hrel
    by_cases hlt : i < L.length
    · have hltI : (i : Int) < (L.length : Int) := by omega
      obtain ⟨g, rfl, hrow⟩ := HR.out _ HS.out.2.2.2 (by omega)
      obtain ⟨q, hq⟩ : ∃ q, q = 2 * i := ⟨_, rfl⟩
      have x0 := hrow.c0 i hlt
      have x1 := hrow.c1 i hlt
      rw [← hq] at x0 x1
      have hiq : i * 2 = q := by omega
      have HSZ : Hid ((flF L i).a.size ≤ 1500000 ∧ (flF L i).d.size ≤ 1500000) := HLE.out.at hlt
      have HNN : Hid (¬ nmOk (flF L i).a → ¬ filesP L) := fun h k => h (k.nmAt hlt)
      have HNR : Hid (¬ fnL ah (flF L i).a → ¬ filesP L) := fun h k => by
        rcases HA.out with ⟨_, e⟩ | ⟨j, e1, e2⟩
        · rw [e] at h
          exact nm_ne (k.nmAt hlt) (Classical.byContradiction fun c => h (fn_nil.2 c))
        · rw [e2] at h
          exact h (rise_at k.rise (by omega) hlt)
      have HRJ : Hid (fnL ah (flF L i).a → ∀ j, j + 1 = i → fnL (flF L j).a (flF L i).a) := fun h j e => by
        rcases HA.out with ⟨e1, _⟩ | ⟨k, e1, e2⟩
        · omega
        · have : k = j := by omega
          subst this
          rw [← e2]; exact h
      have HNX : Hid ((∀ j, j + 1 = i → fnL (flF L j).a (flF L i).a) → putF (L.take i) (flF L i).a (oldB (L.take i) (flF L i).a ++ (flF L i).d) = L.take (i + 1)) := fun h => put_next hlt HS.out.2.1 h
      have HTS : Hid (nmOk (flF L i).a → (∀ j, j + 1 = i → fnL (flF L j).a (flF L i).a) → fileT L (i + 1)) := fun h1 h2 => fileT_step HS.out.2.1 h1 h2
      have HFU : Hid (¬ ((L.take (i + 1)).length ≤ 60 ∧ sumD (L.take (i + 1)) ≤ 200000) → ¬ filesP L) := fun h k => h ⟨by have := k.len; rw [List.length_take]; omega, by have := k.sum; have := sumD_take L (i + 1); omega⟩
      have HTL : Hid ((L.take i).length = i ∧ (L.take (i + 1)).length = i + 1) := ⟨by rw [List.length_take]; omega, by rw [List.length_take]; omega⟩
      have HA2 : Hid ((i + 1 = 0 ∧ (flF L i).a = ⟨#[]⟩) ∨ ∃ k, k + 1 = i + 1 ∧ (flF L i).a = (flF L k).a) := Or.inr ⟨i, rfl, rfl⟩
      have HIN := hidF hlt
      clear hrow hq
      generalize hff : flF L i = f at x0 x1 HSZ HNN HNR HRJ HNX HTS HA2
      obtain ⟨fa, fd⟩ := f
      simp only at x0 x1 HSZ HNN HNR HRJ HNX HTS HA2
      have HBX : Hid ((W0.alloc (.cells #[.string fa, .string fd] 88)).heap[W0.heap.size]? = some (.cells #[.string fa, .string fd] 88 (0, 0))) := heap_alloc_new W0 _
      have HBW : Hid (Below W0.heap.size W0 (W0.alloc (.cells #[.string fa, .string fd] 88))) := (Below.refl _ _).alloc (Nat.le_refl _) _
      clear hff
      by_cases hfn : fnL ah fa
      rotate_left
      · have HF := hidF (HNR.out hfn)
        have HEN : Hid (Below w.heap.size w (W0.alloc (.cells #[.string fa, .string fd] 88))) := blFl HS.out.2.2.2 HBW.out HS.out.2.2.2.size
        rcases fnL_tri fa ah with hk | hk | hk
        · have hb1 := blF_yes hk
          clear HNR HRJ HNX HTS hfn hk
          go_wp2_with fail
          go_ret2
          exact ⟨Or.inr ⟨HF.out, _, rfl⟩, HEN.out⟩
        · subst hk
          clear HNR HRJ HNX HTS hfn
          go_wp2_with fail
          go_ret2
          exact ⟨Or.inr ⟨HF.out, _, rfl⟩, HEN.out⟩
        · exact absurd hk hfn
      have hb1 := blF_no (fnL_no hfn)
      have hb2 := beqF_no (fun c => fnL_ne hfn c.symm)
      by_cases hnm : nmOk fa
      rotate_left
      · have HF := hidF (HNN.out hnm)
        have HEN : Hid (Below w.heap.size w (W0.alloc (.cells #[.string fa, .string fd] 88))) := blFl HS.out.2.2.2 HBW.out HS.out.2.2.2.size
        have HNA : Hid (∀ w, Calls Try.prog 83 #[.string fa] w fun e w' => e = .returned (.bool false) ∧ w' = w) := fun w => by have := HNM.out fa w; rwa [decide_eq_false hnm] at this
        clear HNR HRJ HNX HTS hfn hnm
        go_wp2_with fail
        refine (HNA.out _).mono ?_
        rintro e w1 ⟨rfl, hw1⟩
        subst w1
        go_wp2_with fail
        go_ret2
        exact ⟨Or.inr ⟨HF.out, _, rfl⟩, HEN.out⟩
      have HNA : Hid (∀ w, Calls Try.prog 83 #[.string fa] w fun e w' => e = .returned (.bool true) ∧ w' = w) := fun w => by have := HNM.out fa w; rwa [decide_eq_true hnm] at this
      have hrj := HRJ.out hfn
      have HNX2 := hidF (HNX.out hrj)
      have HTS2 := hidF (HTS.out hnm hrj)
      have HDW := HDO.out p mb V (L.take i) fa fd _ (HS.out.1.under HBW.out) hnm (by have := HTL.out.1; omega) (by have := HS.out.2.2.1; omega) (by have := HSZ.out.2; omega)
      rw [HNX2.out] at HDW
      have HDW2 := hidF HDW
      clear HNR HRJ HNX HTS hfn hnm hrj HDW HNX2
      go_wp2_with fail
      refine (HNA.out _).mono ?_
      rintro e w1 ⟨rfl, hw1⟩
      subst w1
      go_wp2_with fail
      refine HDW2.out.mono ?_
      rintro e w2 ⟨rfl, ⟨V2, hF2⟩, hb2'⟩
      have HF2 := hidF hF2
      have HX2 : Hid (w2.heap[W0.heap.size]? = some (.cells #[.string fa, .string fd] 88 (0, 0))) := hb2'.fr _ _ _ HBX.out (by decide) (fun c => by have := HS.out.1.plt.1; omega)
      have HB2 : Hid (Below w.heap.size w w2) := (blFl HS.out.2.2.2 HBW.out HS.out.2.2.2.size).trans hb2'.bel
      clear hF2 hb2' x0 x1 hb1 hb2 HBX HBW HDW2
      have d0 := cell_of_row _ _ 0 _ _ _ HX2.out
      go_wp2_with fail
      refine (HFT.out p mb V2 (L.take (i + 1)) _ HF2.out).mono ?_
      rintro e w3 ⟨rfl, hw3⟩
      subst w3
      by_cases hfit : (L.take (i + 1)).length ≤ 60 ∧ sumD (L.take (i + 1)) ≤ 200000
      · rw [decide_eq_true hfit]
        have HS2 : Hid (FsW w2 w.heap.size p mb (L.take (i + 1)) V2 (sumD (L.take (i + 1))) ∧ fileT L (i + 1) ∧ sumD (L.take (i + 1)) ≤ 200000 ∧ Below w.heap.size w w2) := ⟨HF2.out, HTS2.out, hfit.2, HB2.out⟩
        have h61 : i + 1 ≤ 60 := by have := HTL.out.2; omega
        clear hfit
        go_wp2_with fail
        go_roundw
        case rel => exact ⟨i + 1, fa, V2, by have := HIN.out; omega, h61, rfl, by go_num, HA2, HS2⟩
        case measure => simp [intFl]; have := HIN.out; omega
      · rw [decide_eq_false hfit]
        have HF := hidF (HFU.out hfit)
        clear hfit
        go_wp2_with fail
        go_ret2
        exact ⟨Or.inr ⟨HF.out, _, rfl⟩, HB2.out⟩
    · have hie : i = L.length := by omega
      have hltI : ¬ (i : Int) < (L.length : Int) := by omega
      have HFP : Hid (filesP L) := by
        have h1 := HS.out.2.1
        have h2 := HS.out.2.2.1
        rw [hie] at h1 h2
        rw [List.take_length] at h2
        exact fileT_all h1 (by omega) h2
      have HFS : Hid (FsW W0 w.heap.size p mb L V (sumD L)) := by
        have h1 := HS.out.1
        rw [hie, List.take_length] at h1
        exact h1
      clear hie
      go_wp2_with fail
      go_ret2
      exact ⟨Or.inl ⟨HFP.out, p, mb, V, rfl, HFS.out⟩, HS.out.2.2.2⟩
end Go.Proofs.Ytanlggglbpibfaa
