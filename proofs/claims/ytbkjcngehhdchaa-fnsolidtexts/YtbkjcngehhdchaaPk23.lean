/-
  Several texts of this seat as one: ReadC, DecB, UnWK.
-/
import Derived.Test.YtbkjcngehhdchaaPk22
import Derived.Test.YtbkjcngehhdchaaPk07
import Derived.Test.YtbkjcngehhdchaaPk08
import Derived.BigRegion
import Derived.Test.YtbkjcngehhdchaaPk13

/-!   The closure that reads a choice. -/
namespace Go.Proofs.Ytbkjcngehhdchaa
open Go.RowKit
set_option linter.unusedVariables false
set_option linter.unusedSimpArgs false
def bitR (s : DS × Bool) (c _ : Nat) : Nat := s.1.tell c
def nxtR (s : DS × Bool) (c _ : Nat) : DS × Bool := (s.1.go c, s.2 && s.1.ok c)
theorem bitR_lt (s : DS × Bool) (c t : Nat) : bitR s c t < 2 := by
  unfold bitR DS.tell DS.bit
  split
  · split <;> decide
  · decide
/-- the decoder and the flag, boxed, as the closure knows them -/
structure PSr (bd bo g : Nat) (w : World) (s : DS × Bool) (D : Nat → Prop) : Prop where
  rd : w.heap[bd]? = some (.cells #[.pointer (some ⟨g, 0, none⟩)] 129 (0, 0))
  ro : w.heap[bo]? = some (.cells #[.bool s.2] 4 (0, 0))
  dec : DecAt w g s.1
  fine : s.1.Fine
  ne1 : bd ≠ bo
  ne2 : bd ≠ g
  ne3 : bo ≠ g
  dom : D = fun k => k = bd ∨ k = bo ∨ k = g
theorem PSr.stay {bd bo g : Nat} {w w' : World} {s : DS × Bool} {D : Nat → Prop} (h : PSr bd bo g w s D) (hk : ∀ k, D k → w'.heap[k]? = w.heap[k]?) : PSr bd bo g w' s D := by
  obtain ⟨h1, h2, ⟨R, C, h3, h3'⟩, h4, h5, h6, h7, rfl⟩ := h
  exact ⟨(hk bd (Or.inl rfl)).trans h1, (hk bo (Or.inr (Or.inl rfl))).trans h2, ⟨R, C, h3.of_row (hk g (Or.inr (Or.inr rfl))), h3'⟩, h4, h5, h6, h7, rfl⟩
theorem PSr.lt {bd bo g : Nat} {w : World} {s : DS × Bool} {D : Nat → Prop} (h : PSr bd bo g w s D) : ∀ k, D k → k < w.heap.size := by
  obtain ⟨h1, h2, ⟨R, C, h3, h3'⟩, h4, h5, h6, h7, rfl⟩ := h
  intro k hk
  rcases hk with rfl | rfl | rfl
  · exact (Array.getElem?_eq_some_iff.1 h1).1
  · exact (Array.getElem?_eq_some_iff.1 h2).1
  · exact h3.lt
set_option maxRecDepth 100000 in
set_option maxHeartbeats 1000000 in
theorem rdbit_any (bd bo g : Nat) (w : World) (s : DS × Bool) (D : Nat → Prop) (c t : Nat) (h : PSr bd bo g w s D) (hc : c < 512) :
    Calls Try.prog 87 #[.int .i64 (c : Int), .int .i64 (t : Int), .pointer (some ⟨bd, 0, none⟩), .pointer (some ⟨bo, 0, none⟩)] w fun e w' => e = .returned (.int .i64 ((bitR s c t : Nat) : Int)) ∧ ∃ D', PSr bd bo g w' (nxtR s c t) D' ∧ Kpt D w D' w' := by
  have HN : Hid (∀ w, DecAt w g s.1 → Calls Try.prog 88 #[.pointer (some ⟨g, 0, none⟩), .int .i64 (c : Int)] w fun e w' => e = .returned (.tuple #[.int .i64 ((s.1.tell c : Nat) : Int), .bool (s.1.ok c)]) ∧ DecAt w' g (s.1.go c) ∧ w.grownBy w' (some g)) := fun w hd => dnext_any h.fine hd hc
  have HG : Hid ((s.1.go c).Fine) := h.fine.go c
  have x0 : w.cell? ⟨bd, 0, none⟩ = some (.pointer (some ⟨g, 0, none⟩)) := cell_of_row _ _ _ _ _ _ h.rd
  have HH : Hid (PSr bd bo g w s D) := h
  have hblt := (Array.getElem?_eq_some_iff.1 h.ro).1
  have HE : Hid (bitR s c t = s.1.tell c ∧ nxtR s c t = (s.1.go c, s.2 && s.1.ok c)) := ⟨rfl, rfl⟩
  obtain ⟨ok, hok⟩ : ∃ ok, ok = s.2 := ⟨_, rfl⟩
  have HOK : Hid (ok = s.2) := hok
  rw [← hok] at HE
  generalize bitR s c t = bt at *
  generalize nxtR s c t = ns at *
  generalize s.1.tell c = tl at *
  generalize s.1.ok c = ko at *
  generalize s.1.go c = sg at *
  have HBL : Hid (bo < w.heap.size) := hblt
  clear h hc hblt hok
  go_enter Try.func87, Try.ntmps87
  go_wp2_with fail
  refine (HN.out _ HH.out.dec).mono ?_
  rintro e w2 ⟨rfl, hd2, hg2⟩
  have hro : w2.heap[bo]? = some (.cells #[.bool ok] 4 (0, 0)) := (hg2.block bo HBL.out (fun e => HH.out.ne3 (Option.some.inj e))).trans (by rw [HOK.out]; exact HH.out.ro)
  have hrd : w2.heap[bd]? = some (.cells #[.pointer (some ⟨g, 0, none⟩)] 129 (0, 0)) := (hg2.block bd (Array.getElem?_eq_some_iff.1 HH.out.rd).1 (fun e => HH.out.ne2 (Option.some.inj e))).trans HH.out.rd
  have y0 : w2.cell? ⟨bo, 0, none⟩ = some (.bool ok) := cell_of_row _ _ _ _ _ _ hro
  have z0 := frozen_of_row w2 bo 0 _ _ hro
  have HF : Hid (∃ D', PSr bd bo g (w2.setCell ⟨bo, 0, none⟩ (.bool (ok && ko))) ns D' ∧ Kpt D w D' (w2.setCell ⟨bo, 0, none⟩ (.bool (ok && ko)))) := by
    obtain ⟨R, C, hR, hC⟩ := hd2
    refine ⟨D, ⟨?_, ?_, ⟨R, C, ?_, ?_⟩, ?_, HH.out.ne1, HH.out.ne2, HH.out.ne3, HH.out.dom⟩, ⟨hg2.os, hg2.tape, hg2.output, by simpa using hg2.size, fun k hk hn => ?_, fun k hk => Or.inl hk⟩⟩
    · rw [heap_setCell_other _ _ _ _ HH.out.ne1]; exact hrd
    · rw [HE.out.2]; exact heap_setCell_same _ _ _ _ _ _ hro
    · rw [HE.out.2]; exact hR.of_row (heap_setCell_other _ _ _ _ (Ne.symm HH.out.ne3))
    · rw [HE.out.2]; exact hC
    · rw [HE.out.2]; exact HG.out
    · rw [HH.out.dom] at hn
      rw [heap_setCell_other _ _ _ _ (fun e => hn (Or.inr (Or.inl e)))]
      exact hg2.block k hk (fun e => hn (Or.inr (Or.inr (Option.some.inj e))))
  clear hro hrd hd2 hg2
  cases ok <;> cases ko <;>
    (go_wp2_with fail
     go_ret
     exact ⟨by rw [HE.out.1]; first | rfl | simp, HF.out⟩)
end Go.Proofs.Ytbkjcngehhdchaa

/-!   A coder that reads: how it starts. -/
namespace Go.Proofs.Ytbkjcngehhdchaa
open Go.RowKit
set_option linter.unusedVariables false
set_option linter.unusedSimpArgs false
/-- the number that the bytes behind the first one begin with -/
def code0 (S : ByteArray) : Nat := pt (bsOf (S.extract 1 S.size)) 0 4
def rest0 (S : ByteArray) : ByteArray := S.extract 5 S.size
def startOk (S : ByteArray) : Prop := 5 ≤ S.size ∧ bsOf S 0 = 0
theorem pt4_lt {bs : Nat → Nat} (hb : ∀ j, bs j < 256) (i : Nat) : pt bs i 4 < 4294967296 := by
  have h := pt_lt hb i 3 (by omega)
  have h2 := hb (4 * i + 3)
  show pt bs i 3 * 256 + bs (4 * i + 3) < 4294967296
  omega
set_option maxRecDepth 100000 in
theorem startD_no (S : ByteArray) (w : World) (hs : S.size ≤ 1099511627776) (h : ¬ startOk S) :
    Calls Try.prog 86 #[.string S] w fun e w' => e = .returned (.tuple #[.pointer none, .bool false]) ∧ Below w.heap.size w w' := by
  by_cases h5 : S.size < 5
  · have h5I : (S.size : Int) < 5 := by omega
    clear h
    go_enter Try.func86, Try.ntmps86
    go_wp2_with fail
    go_ret2
    exact ⟨rfl, Below.refl _ _⟩
  · have h5I : ¬ (S.size : Int) < 5 := by omega
    have h0I : (0 : Int) < (S.size : Int) := by omega
    have h0N : 0 < S.size := by omega
    have hb := bsOf_at S 0 h0N
    have hne : ((bsOf S 0 : Nat) : Int) ≠ 0 := fun e => h ⟨by omega, by omega⟩
    have hnb : (((bsOf S 0 : Nat) : Int) != 0) = true := bne_iff_ne.2 hne
    clear h hne
    generalize bsOf S 0 = b at hb hnb
    go_enter Try.func86, Try.ntmps86
    go_wp2_with fail
    go_ret2
    exact ⟨rfl, Below.refl _ _⟩
set_option maxRecDepth 100000 in
set_option maxHeartbeats 2000000 in
theorem startD_yes (S : ByteArray) (w : World) (hs : S.size ≤ 1099511627776) (h : startOk S) :
    Calls Try.prog 86 #[.string S] w fun e w' => (∃ g, e = .returned (.tuple #[.pointer (some ⟨g, 0, none⟩), .bool true]) ∧ w.heap.size ≤ g ∧ DecAt w' g (DS.start (code0 S) (bl (rest0 S)))) ∧ Below w.heap.size w w' := by
  obtain ⟨h5, hb0⟩ := h
  have h5I : ¬ (S.size : Int) < 5 := by omega
  have h5J : (5 : Int) ≤ (S.size : Int) := by omega
  have h1J : (1 : Int) ≤ (S.size : Int) := by omega
  have h0I : (0 : Int) < (S.size : Int) := by omega
  have h0N : 0 < S.size := by omega
  have hb := bsOf_at S 0 h0N
  rw [hb0] at hb
  have HW : Hid (∀ w, Calls Try.prog 101 #[.string (S.extract 1 S.size), .int .i64 0] w fun e w' => e = .returned (.int .u32 ((code0 S : Nat) : Int)) ∧ w' = w) := fun w => word_any (S.extract 1 S.size) 0 w (by rw [ByteArray.size_extract]; omega) (by omega)
  have hcl : code0 S < 4294967296 := pt4_lt (bsOf_lt _) 0
  have hcw : IntKind.i64.wrap ((code0 S : Nat) : Int) = ((code0 S : Nat) : Int) := by rw [IntKind.wrap_i64]; omega
  have HST : Hid (∀ w, Calls Try.prog 81 #[] w fun e w' => e = .returned (.agg coder0) ∧ Below w.heap.size w w') := fun w => started_any w
  have hkz := coder0_size
  obtain ⟨Z, hZ⟩ : ∃ Z : Array Value, Z = Array.replicate 513 (Value.int .i64 0) ++ #[.int .i64 0, .string ByteArray.empty] := ⟨_, rfl⟩
  have hz : ∀ w, (zeroValue 152).run Try.prog w = .ok (.agg Z) w := by rw [hZ]; exact (zero_of_info (n := 515) (by kernel_rfl)).1
  have hZs : Z.size = 515 := by rw [hZ]; simp
  have hZe : ¬ Z = #[] := by intro e; rw [e] at hZs; simp at hZs
  have hfs : ¬ (Array.foldl (fun cs x => cs.setIfInBounds x.snd x.fst) Z coder0.zipIdx 0 513).size < 515 := by
    have := fill_size (Z := Z) coder0_size
    unfold fillC at this
    rw [this, hZs]; omega
  have hfs4 : ¬ (Array.foldl (fun cs x => cs.setIfInBounds x.snd x.fst) Z coder0.zipIdx 0 513).size < 514 := by omega
  have HE0 : Hid (∀ (c : Nat) (v : Value), ((((fillC Z coder0).setIfInBounds 513 (.int .i64 (c : Int))).setIfInBounds 514 v).size = 515 ∧ (((fillC Z coder0).setIfInBounds 513 (.int .i64 (c : Int))).setIfInBounds 514 v)[0]? = some (.int .i64 4294967295) ∧ (∀ j, j < 512 → (((fillC Z coder0).setIfInBounds 513 (.int .i64 (c : Int))).setIfInBounds 514 v)[1 + j]? = some (.int .i64 1024)) ∧ (((fillC Z coder0).setIfInBounds 513 (.int .i64 (c : Int))).setIfInBounds 514 v)[513]? = some (.int .i64 (c : Int)) ∧ (((fillC Z coder0).setIfInBounds 513 (.int .i64 (c : Int))).setIfInBounds 514 v)[514]? = some v)) := fun c v => by
    have f0 := fill_size (Z := Z) coder0_size
    refine ⟨by rw [Array.size_setIfInBounds, Array.size_setIfInBounds, f0, hZs], ?_, fun j hj => ?_, ?_, ?_⟩
    · rw [Array.getElem?_setIfInBounds_ne (by omega), Array.getElem?_setIfInBounds_ne (by omega), fill_get coder0_size hZs, if_pos (by omega)]; exact coder0_zero
    · rw [Array.getElem?_setIfInBounds_ne (by omega), Array.getElem?_setIfInBounds_ne (by omega), fill_get coder0_size hZs, if_pos (by omega)]; exact coder0_at hj
    · rw [Array.getElem?_setIfInBounds_ne (by omega), Array.getElem?_setIfInBounds_self_of_lt (by rw [f0, hZs]; omega)]
    · rw [Array.getElem?_setIfInBounds_self_of_lt (by rw [Array.size_setIfInBounds, f0, hZs]; omega)]
  unfold fillC at HE0
  clear hZ
  unfold rest0
  generalize code0 S = c at HW hcl hcw ⊢
  generalize coder0 = K at HST hkz hfs hfs4 HE0
  go_enter Try.func86, Try.ntmps86
  go_wp2_with fail
  go_region_with (first
    | (refine (HST.out _).mono ?_; rintro e w1 ⟨rfl, hb1⟩)
    | (refine (HW.out _).mono ?_; rintro e w1 ⟨rfl, hw1⟩; subst hw1))
  obtain ⟨hE1, hE2, hE3, hE4, hE5⟩ := HE0.out c (.string (S.extract 5 S.size))
  generalize ((Array.foldl (fun cs x => cs.setIfInBounds x.snd x.fst) Z K.zipIdx 0 513).setIfInBounds 513 (.int .i64 (c : Int))).setIfInBounds 514 (.string (S.extract 5 S.size)) = C0 at *
  have HF : Hid (DecAt (w1.alloc (.cells C0 152)) w1.heap.size (DS.start c (bl (S.extract 5 S.size))) ∧ Below w.heap.size w (w1.alloc (.cells C0 152)) ∧ w.heap.size ≤ w1.heap.size) := by
    have hb2 : Below w.heap.size w w1 := (Below.refl _ w).drew.trans hb1
    exact ⟨⟨S.extract 5 S.size, C0, ⟨heap_alloc_new _ _, hE1, hE2, hE3, hE4, hE5⟩, rfl⟩, hb2.alloc hb2.size _, hb2.size⟩
  clear hE1 hE2 hE3 hE4 hE5 HE0 hfs hfs4 hz hZs hZe hkz
  go_wp2_with fail
  go_ret2
  exact ⟨⟨_, rfl, HF.out.2.2, HF.out.1⟩, HF.out.2.1⟩
end Go.Proofs.Ytbkjcngehhdchaa

/-!   One token more: the code's. -/
namespace Go.Proofs.Ytbkjcngehhdchaa
open Go.RowKit
set_option linter.unusedVariables false
set_option linter.unusedSimpArgs false

structure UWK (o : List Nat) (d j B g0 : Nat) (l : Int) (w wr : World) (v : Value) : Prop where
  own : wr.ownsRow B 5 1 v (o.length + j) (bL (cpI d o j))
  below : Below B w wr
  box : wr.heap[g0]? = some (.cells #[.int .i64 1, .int .i64 0, .int .i64 (d : Int), .int .i64 l] 106 (0, 0))
  tok : ∀ (k : Nat) (cs : Array Value), w.heap[k]? = some (.cells cs 106 (0, 0)) → wr.heap[k]? = some (.cells cs 106 (0, 0))
theorem UWK.put {o : List Nat} {d j B g0 : Nat} {l : Int} {w wr w4 : World} {v v' : Value} (h : UWK o d j B g0 l w wr v) (hB : B ≤ wr.heap.size) (X : Obj)
    (h1 : w4.ownsRow B 5 1 v' (o.length + j + 1) (bL (cpI d o j) ++ [.int .u8 (((cpI d o j).getD ((cpI d o j).length - d) 0 : Nat) : Int)]))
    (h2 : (wr.alloc X).grownBy w4 v.ownBlock) : UWK o d (j + 1) B g0 l w w4 v' := by
  have hl := (Array.getElem?_eq_some_iff.1 h.box).1
  refine ⟨?_, (h.below.alloc hB _).grown h2 (by simp; omega) (fun k hk => (h.own.lt k hk).1), ?_, fun k cs hk => ?_⟩
  · rw [bL_snoc] at h1; exact h1
  · rw [h2.block g0 (by simp; omega) (own_apart h.own h.box), Below.heap_alloc _ _ _ hl]; exact h.box
  · have h3 := h.tok k cs hk
    have hl3 := (Array.getElem?_eq_some_iff.1 h3).1
    rw [h2.block k (by simp; omega) (own_apart h.own h3), Below.heap_alloc _ _ _ hl3]; exact h3
set_option maxRecDepth 100000 in
set_option maxHeartbeats 2000000 in
theorem withK_byte (o : List Nat) (b B : Nat) (v : Value) (w : World) (hlen : o.length ≤ 4000) (hb : b < 256) (hown : w.ownsRow B 5 1 v o.length (bL o)) (hB : B ≤ w.heap.size) :
    Calls Try.prog 90 #[v, tokV 0 (b : Int) 0 0] w fun e w' => ∃ v', e = .returned v' ∧ w'.ownsRow B 5 1 v' (o.length + 1) (bL (o ++ [b])) ∧ Below B w w' ∧ (∀ (k : Nat) (cs : Array Value), w.heap[k]? = some (.cells cs 106 (0, 0)) → w'.heap[k]? = some (.cells cs 106 (0, 0))) := by
  unfold tokV
  obtain ⟨i0, hi, hz0, hz1, hz2⟩ := info_parts Try.infb8
  have hwb : IntKind.u8.wrap (b : Int) = (b : Int) := by rw [IntKind.wrap_u8]; omega
  go_enter Try.func90, Try.ntmps90
  go_wp2_with (at_builtin; (refine wpList_append_own _ rfl _ _ 36 rfl B 5 i0 _ 1 1 Try.underlying36 hi hz0 hz1 hz2 rfl (by decide) v o.length (bL o) rfl ((hown.alloc _).alloc _) ⟨w.heap.size + 1, 0, none⟩ 1 1 [_] rfl rfl (cell_at_new _ _ _ _ ?c1) ?c2 ?c3 ?c4 ?c5 ?_))
  case c1 => simp
  case c2 => exact byte_one _
  case c3 => unfold maxLen; omega
  case c4 => omega
  case c5 => simp; omega
  intro v' w4 hown' hgrow _
  have hb4 : Below B w w4 := (((Below.refl _ _).alloc hB _).alloc (by simp; omega) _).grown hgrow (by simp; omega) (fun k hk => (hown.lt k hk).1)
  rw [bL_snoc] at hown'
  have hkt : ∀ (k : Nat) (cs : Array Value), w.heap[k]? = some (.cells cs 106 (0, 0)) → w4.heap[k]? = some (.cells cs 106 (0, 0)) := fun k cs hk => by
    have hl3 := (Array.getElem?_eq_some_iff.1 hk).1
    rw [hgrow.block k (by simp; omega) (own_apart hown hk), Below.heap_alloc _ _ _ (by simp; omega), Below.heap_alloc _ _ _ hl3]; exact hk
  have H4 : Hid (w4.ownsRow B 5 1 v' (o.length + 1) (bL (o ++ [b])) ∧ Below B w w4 ∧ _) := ⟨hown', hb4, hkt⟩
  clear hown' hgrow hown hb4 hkt
  go_wp2_with fail
  go_ret
  exact ⟨_, rfl, H4.out⟩
set_option maxRecDepth 100000 in
set_option maxHeartbeats 2000000 in
theorem withK_copy (o : List Nat) (d l B : Nat) (v : Value) (w : World) (hlen : o.length ≤ 4000) (hd1 : 1 ≤ d) (hd : d ≤ o.length) (hl : l ≤ 66) (ho : AllB o) (hown : w.ownsRow B 5 1 v o.length (bL o)) (hB : B ≤ w.heap.size) :
    Calls Try.prog 90 #[v, tokV 1 0 (d : Int) (l : Int)] w fun e w' => ∃ v', e = .returned v' ∧ w'.ownsRow B 5 1 v' (o.length + l) (bL (cpI d o l)) ∧ Below B w w' ∧ (∀ (k : Nat) (cs : Array Value), w.heap[k]? = some (.cells cs 106 (0, 0)) → w'.heap[k]? = some (.cells cs 106 (0, 0))) := by
  unfold tokV
  obtain ⟨i0, hi, hz0, hz1, hz2⟩ := info_parts Try.infb8
  have HU : Hid (UWK o d 0 B w.heap.size l w (w.alloc (.cells #[.int .i64 1, .int .i64 0, .int .i64 (d : Int), .int .i64 (l : Int)] 106)) v) :=
    ⟨hown.alloc _, (Below.refl _ _).alloc hB _, heap_alloc_new w _, fun k cs hk => (Below.heap_alloc _ _ _ (Array.getElem?_eq_some_iff.1 hk).1).trans hk⟩
  go_enter Try.func90, Try.ntmps90
  go_wp2_with fail
  go_loopw [0, 16] (fun v c wr => ∃ (j : Nat), j ≤ l ∧ c = .int .i64 (j : Int) ∧ Hid (UWK o d j B w.heap.size l w wr v)) (fun _ c _ => l - (lonIntOf c).toNat)
  case atStart => exact ⟨0, by omega, rfl, HU⟩
  case round =>
    clear HU hown
    obtain ⟨j, hj, rfl, HU⟩ := hrel
    by_cases hlt : j < l
    · have hltI : (j : Int) < (l : Int) := by omega
      have hBw : B ≤ wr.heap.size := Nat.le_trans hB (by have := HU.out.below.size; omega)
      obtain ⟨g, cap, cur, rfl, _, _, hcell⟩ := own_form1 HU.out.own (by omega)
      obtain ⟨q, hq⟩ : ∃ q, o.length + j = q + d := ⟨o.length + j - d, by omega⟩
      have hcl := cpI_len d o j
      have x0 := hcell q _ (bL_at (cpI d o j) q (by omega))
      have x1 : wr.cell? ⟨w.heap.size, 2, none⟩ = some (.int .i64 (d : Int)) := cell_of_row wr _ 2 _ _ _ HU.out.box
      have hqe : (cpI d o j).length - d = q := by omega
      have HOW := HU.out.own
      have HNX : Hid (∀ v' w4, w4.ownsRow B 5 1 v' (o.length + j + 1) (bL (cpI d o j) ++ [.int .u8 (((cpI d o j).getD q 0 : Nat) : Int)]) → (wr.alloc (.cells #[.int .u8 (((cpI d o j).getD q 0 : Nat) : Int)] 5)).grownBy w4 (Value.slice (some ⟨g, 0, none⟩) (o.length + j) cap).ownBlock → UWK o d (j + 1) B w.heap.size l w w4 v') := fun v' w4 h1 h2 => by
        refine HU.out.put hBw _ ?_ h2
        rw [hqe]; exact h1
      have hn4 : o.length + j ≤ 4066 := by omega
      generalize (cpI d o j).getD q 0 = c at x0 HNX
      generalize o.length + j = n at HOW hq x0 HNX hn4
      have hwn : IntKind.i64.wrap ((n : Int) - (d : Int)) = (q : Int) := by rw [IntKind.wrap_i64]; omega
      have hqn : (q : Int) < (n : Int) := by omega
      have hqN : q < n := by omega
      clear hcell hcl hqe hq
      go_wp2_with (at_builtin; (refine wpList_append_own _ rfl _ _ 36 rfl B 5 i0 _ 1 1 Try.underlying36 hi hz0 hz1 hz2 rfl (by decide) _ _ _ rfl (HOW.alloc _) ⟨wr.heap.size, 0, none⟩ 1 1 [_] rfl rfl (cell_at_new _ _ _ _ ?c1) ?c2 ?c3 ?c4 ?c5 ?_))
      case c1 => rfl
      case c2 => exact byte_one _
      case c3 => unfold maxLen; omega
      case c4 => omega
      case c5 => simp; omega
      intro v' w4 hown' hgrow _
      have H4 : Hid _ := HNX.out v' w4 hown' hgrow
      clear hown' hgrow HOW HNX
      go_wp2_with fail
      go_roundw
      case rel => exact ⟨j + 1, by omega, by go_num, H4⟩
      case measure => simp [lonIntOf]; omega
    · obtain rfl : j = l := by omega
      go_wp2_with fail
      go_ret
      exact ⟨_, rfl, HU.out.own, HU.out.below, HU.out.tok⟩
theorem withK_any (o : List Nat) (t : TkI) (B : Nat) (v : Value) (w : World) (hlen : o.length ≤ 4000) (ho : AllB o) (hp : tokP t.k t.b t.d t.l (o.length : Int)) (hown : w.ownsRow B 5 1 v o.length (bL o)) (hB : B ≤ w.heap.size) :
    Calls Try.prog 90 #[v, tokV t.k t.b t.d t.l] w fun e w' => ∃ v', e = .returned v' ∧ w'.ownsRow B 5 1 v' (tkOut o t).length (bL (tkOut o t)) ∧ Below B w w' ∧ (∀ (k : Nat) (cs : Array Value), w.heap[k]? = some (.cells cs 106 (0, 0)) → w'.heap[k]? = some (.cells cs 106 (0, 0))) := by
  obtain ⟨k, b, d, l⟩ := t
  obtain ⟨_, ⟨hk, h1, h2, hd, hl⟩ | ⟨hk, hb, h1, h2, h3, h4, h5⟩⟩ := hp
  · simp only at hk h1 h2 hd hl
    subst hk hd hl
    obtain ⟨n, rfl⟩ := Int.eq_ofNat_of_zero_le h1
    have := withK_byte o n B v w hlen (by omega) hown hB
    simpa [tkOut] using this
  · simp only at hk hb h1 h2 h3 h4 h5
    subst hk hb
    obtain ⟨n, rfl⟩ := Int.eq_ofNat_of_zero_le (a := d) (by omega)
    obtain ⟨m, rfl⟩ := Int.eq_ofNat_of_zero_le (a := l) (by omega)
    have := withK_copy o n m B v w hlen (by omega) (by omega) (by omega) ho hown hB
    simpa [tkOut, cpI_len] using this
end Go.Proofs.Ytbkjcngehhdchaa
