/-
  A coder that reads: how it starts.
-/
import Derived.Test.YtmckchklebohmacDecC
import Derived.Test.YtmckchklebohmacRngF
import Derived.Test.YtmckchklebohmacShaWord
import Derived.BigRegion
namespace Go.Proofs.Ytmckchklebohmac
open Go.RowKit
set_option linter.unusedVariables false
set_option linter.unusedSimpArgs false
/-- the number that the bytes behind the first one begin with -/
def code0 (S : ByteArray) : Nat := pt (bsOf (S.extract 1 S.size)) 0 4
def rest0 (S : ByteArray) : ByteArray := S.extract 5 S.size
def startOk (S : ByteArray) : Prop := 5 ≤ S.size ∧ bsOf S 0 = 0
theorem pt4_lt {bs : Nat → Nat} (hb : ∀ j, bs j < 256) (i : Nat) : pt bs i 4 < 4294967296 := by
  have h := pt_lt hb i 3 (by omega)
  have h2 := hb (4 * i + 3)
  show pt bs i 3 * 256 + bs (4 * i + 3) < 4294967296
  omega
set_option maxRecDepth 100000 in
theorem startD_no (S : ByteArray) (w : World) (hs : S.size ≤ 1099511627776) (h : ¬ startOk S) :
    Calls Try.prog 37 #[.string S] w fun e w' => e = .returned (.tuple #[.pointer none, .bool false]) ∧ Below w.heap.size w w' := by
  by_cases h5 : S.size < 5
  · have h5I : (S.size : Int) < 5 := by omega
    clear h
    go_enter Try.func37, Try.ntmps37
    go_wp2_with fail
    go_ret2
    exact ⟨rfl, Below.refl _ _⟩
  · have h5I : ¬ (S.size : Int) < 5 := by omega
    have h0I : (0 : Int) < (S.size : Int) := by omega
    have h0N : 0 < S.size := by omega
    have hb := bsOf_at S 0 h0N
    have hne : ((bsOf S 0 : Nat) : Int) ≠ 0 := fun e => h ⟨by omega, by omega⟩
    have hnb : (((bsOf S 0 : Nat) : Int) != 0) = true := bne_iff_ne.2 hne
    clear h hne
    generalize bsOf S 0 = b at hb hnb
    go_enter Try.func37, Try.ntmps37
    go_wp2_with fail
    go_ret2
    exact ⟨rfl, Below.refl _ _⟩
set_option maxRecDepth 100000 in
set_option maxHeartbeats 2000000 in
theorem startD_yes (S : ByteArray) (w : World) (hs : S.size ≤ 1099511627776) (h : startOk S) :
    Calls Try.prog 37 #[.string S] w fun e w' => (∃ g, e = .returned (.tuple #[.pointer (some ⟨g, 0, none⟩), .bool true]) ∧ w.heap.size ≤ g ∧ DecAt w' g (DS.start (code0 S) (bl (rest0 S)))) ∧ Below w.heap.size w w' := by
  obtain ⟨h5, hb0⟩ := h
  have h5I : ¬ (S.size : Int) < 5 := by omega
  have h5J : (5 : Int) ≤ (S.size : Int) := by omega
  have h1J : (1 : Int) ≤ (S.size : Int) := by omega
  have h0I : (0 : Int) < (S.size : Int) := by omega
  have h0N : 0 < S.size := by omega
  have hb := bsOf_at S 0 h0N
  rw [hb0] at hb
  have HW : Hid (∀ w, Calls Try.prog 57 #[.string (S.extract 1 S.size), .int .i64 0] w fun e w' => e = .returned (.int .u32 ((code0 S : Nat) : Int)) ∧ w' = w) := fun w => word_any (S.extract 1 S.size) 0 w (by rw [ByteArray.size_extract]; omega) (by omega)
  have hcl : code0 S < 4294967296 := pt4_lt (bsOf_lt _) 0
  have hcw : IntKind.i64.wrap ((code0 S : Nat) : Int) = ((code0 S : Nat) : Int) := by rw [IntKind.wrap_i64]; omega
  have HST : Hid (∀ w, Calls Try.prog 32 #[] w fun e w' => e = .returned (.agg coder0) ∧ Below w.heap.size w w') := fun w => started_any w
  have hkz := coder0_size
  obtain ⟨Z, hZ⟩ : ∃ Z : Array Value, Z = Array.replicate 513 (Value.int .i64 0) ++ #[.int .i64 0, .string ByteArray.empty] := ⟨_, rfl⟩
  have hz : ∀ w, (zeroValue 97).run Try.prog w = .ok (.agg Z) w := by rw [hZ]; exact (zero_of_info (n := 515) (by kernel_rfl)).1
  have hZs : Z.size = 515 := by rw [hZ]; simp
  have hZe : ¬ Z = #[] := by intro e; rw [e] at hZs; simp at hZs
  have hfs : ¬ (Array.foldl (fun cs x => cs.setIfInBounds x.snd x.fst) Z coder0.zipIdx 0 513).size < 515 := by
    have := fill_size (Z := Z) coder0_size
    unfold fillC at this
    rw [this, hZs]; omega
  have hfs4 : ¬ (Array.foldl (fun cs x => cs.setIfInBounds x.snd x.fst) Z coder0.zipIdx 0 513).size < 514 := by omega
  have HE0 : Hid (∀ (c : Nat) (v : Value), ((((fillC Z coder0).setIfInBounds 513 (.int .i64 (c : Int))).setIfInBounds 514 v).size = 515 ∧ (((fillC Z coder0).setIfInBounds 513 (.int .i64 (c : Int))).setIfInBounds 514 v)[0]? = some (.int .i64 4294967295) ∧ (∀ j, j < 512 → (((fillC Z coder0).setIfInBounds 513 (.int .i64 (c : Int))).setIfInBounds 514 v)[1 + j]? = some (.int .i64 1024)) ∧ (((fillC Z coder0).setIfInBounds 513 (.int .i64 (c : Int))).setIfInBounds 514 v)[513]? = some (.int .i64 (c : Int)) ∧ (((fillC Z coder0).setIfInBounds 513 (.int .i64 (c : Int))).setIfInBounds 514 v)[514]? = some v)) := fun c v => by
    have f0 := fill_size (Z := Z) coder0_size
    refine ⟨by rw [Array.size_setIfInBounds, Array.size_setIfInBounds, f0, hZs], ?_, fun j hj => ?_, ?_, ?_⟩
    · rw [Array.getElem?_setIfInBounds_ne (by omega), Array.getElem?_setIfInBounds_ne (by omega), fill_get coder0_size hZs, if_pos (by omega)]; exact coder0_zero
    · rw [Array.getElem?_setIfInBounds_ne (by omega), Array.getElem?_setIfInBounds_ne (by omega), fill_get coder0_size hZs, if_pos (by omega)]; exact coder0_at hj
    · rw [Array.getElem?_setIfInBounds_ne (by omega), Array.getElem?_setIfInBounds_self_of_lt (by rw [f0, hZs]; omega)]
    · rw [Array.getElem?_setIfInBounds_self_of_lt (by rw [Array.size_setIfInBounds, f0, hZs]; omega)]
  unfold fillC at HE0
  clear hZ
  unfold rest0
  generalize code0 S = c at HW hcl hcw ⊢
  generalize coder0 = K at HST hkz hfs hfs4 HE0
  go_enter Try.func37, Try.ntmps37
  go_wp2_with fail
  go_region_with (first
    | (refine (HST.out _).mono ?_; rintro e w1 ⟨rfl, hb1⟩)
    | (refine (HW.out _).mono ?_; rintro e w1 ⟨rfl, hw1⟩; subst hw1))
  obtain ⟨hE1, hE2, hE3, hE4, hE5⟩ := HE0.out c (.string (S.extract 5 S.size))
  generalize ((Array.foldl (fun cs x => cs.setIfInBounds x.snd x.fst) Z K.zipIdx 0 513).setIfInBounds 513 (.int .i64 (c : Int))).setIfInBounds 514 (.string (S.extract 5 S.size)) = C0 at *
  have HF : Hid (DecAt (w1.alloc (.cells C0 97)) w1.heap.size (DS.start c (bl (S.extract 5 S.size))) ∧ Below w.heap.size w (w1.alloc (.cells C0 97)) ∧ w.heap.size ≤ w1.heap.size) := by
    have hb2 : Below w.heap.size w w1 := (Below.refl _ w).drew.trans hb1
    exact ⟨⟨S.extract 5 S.size, C0, ⟨heap_alloc_new _ _, hE1, hE2, hE3, hE4, hE5⟩, rfl⟩, hb2.alloc hb2.size _, hb2.size⟩
  clear hE1 hE2 hE3 hE4 hE5 HE0 hfs hfs4 hz hZs hZe hkz
  go_wp2_with fail
  go_ret2
  exact ⟨⟨_, rfl, HF.out.2.2, HF.out.1⟩, HF.out.2.1⟩
end Go.Proofs.Ytmckchklebohmac
