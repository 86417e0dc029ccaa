/-
  Several texts of this seat as one: ChoN, RngS, RngSh.
-/
import Derived.Test.YtbkjcngehhdchaaPk15
import Derived.Test.YtbkjcngehhdchaaPk07
import Derived.Laws.MakeOwn

/-!   The choices of a text that is too long: the specification's. -/
namespace Go.Proofs.Ytbkjcngehhdchaa
open Go.RowKit
set_option linter.unusedVariables false
set_option linter.unusedSimpArgs false
set_option maxRecDepth 100000 in
theorem schoices_no (s : ByteArray) (w : World) (hs : ¬ s.size ≤ 4000) :
    Calls Try.prog 52 #[.string s] w fun e w' => e = .returned (.tuple #[.slice none 0 0, .bool false]) ∧ w' = w := by
  have H : Hid (∀ w, _) := fun w => stokens_no s w hs
  clear hs
  go_enter Try.func52, Try.ntmps52
  go_wp2_with fail
  refine (H.out _).mono ?_
  rintro e w1 ⟨rfl, rfl⟩
  go_wp2_with fail
  go_ret2
  exact ⟨rfl, rfl⟩
end Go.Proofs.Ytbkjcngehhdchaa

/-!   The coder of ranges: the specification's. -/
namespace Go.Proofs.Ytbkjcngehhdchaa
open Go.RowKit
set_option linter.unusedVariables false
set_option linter.unusedSimpArgs false
theorem Try.infI6 : (Try.prog.info? 2).map (fun i => (i.zero, i.size, i.bytes)) = some (some (.int .i64 0), 1, 8) := by kernel_rfl
set_option maxRecDepth 100000 in
set_option maxHeartbeats 1000000 in
theorem probs_any (w : World) :
    Calls Try.prog 73 #[] w fun e w' => (∃ v, e = .returned v ∧ w'.ownsRow w.heap.size 2 1 v 512 (List.replicate 512 (.int .i64 1024))) ∧ Below w.heap.size w w' := by
  obtain ⟨i0, hi, hz0, hz1, hz2⟩ := info_parts Try.infI6
  go_enter Try.func73, Try.ntmps73
  go_wp2_with fail
  go_loopw [1, 2] (fun v c wr => ∃ k : Nat, k ≤ 512 ∧ c = .int .i64 (k : Int) ∧ wr.ownsRow w.heap.size 2 1 v k (List.replicate k (.int .i64 1024)) ∧ Below w.heap.size w wr) (fun _ c _ => 512 - natOfI c)
  case atStart => exact ⟨0, by omega, rfl, World.ownsRow_made w #[] 0 (Nat.le_refl _) (by unfold maxLen; omega) rfl, (Below.refl _ _).alloc (Nat.le_refl _) _⟩
  case round =>
    obtain ⟨k, hk, rfl, hown, hb⟩ := hrel
    by_cases hlt : k < 512
    · have hltI : (k : Int) < 512 := by omega
      have hsz := hb.size
      go_wp2_with (at_builtin; (refine wpList_append_own _ rfl _ _ 65 rfl w.heap.size 2 i0 (.int .i64 0) 1 8 Try.underlying65 hi hz0 hz1 hz2 rfl (by decide) _ _ _ rfl (hown.alloc _) ⟨wr.heap.size, 0, none⟩ 1 1 [_] rfl rfl (cell_one_new _ _ _) ?c2 ?c3 ?c4 ?c5 ?_))
      case c2 => intro u hu; simp at hu; subst hu; rfl
      case c3 => unfold maxLen; omega
      case c4 => omega
      case c5 => simp; omega
      intro v' w1 hown' hgrow _
      have hb2 : Below w.heap.size w w1 := (hb.alloc (by omega) _).grown hgrow (by simp; omega) (fun k hk => (hown.lt k hk).1)
      have H1 : Hid (w1.ownsRow w.heap.size 2 1 v' (k + 1) (List.replicate (k + 1) (.int .i64 1024)) ∧ Below w.heap.size w w1) := ⟨by rw [List.replicate_succ']; exact hown', hb2⟩
      clear hown' hb2 hgrow hown hb
      go_wp2_with fail
      go_roundw
      case rel => exact ⟨k + 1, by omega, by go_num, H1.out.1, H1.out.2⟩
      case measure => simp [natOfI]; omega
    · obtain rfl : k = 512 := by omega
      go_wp2_with fail
      go_ret
      exact ⟨⟨_, rfl, hown⟩, hb⟩
/-- the specification's coder as a value: its bytes and its numbers in rows of their own -/
structure ESV (w : World) (B : Nat) (s : RS) (V : Value) (vo vp : Value) : Prop where
  val : V = .agg #[.int .u64 (s.low : Int), .int .u32 (s.width : Int), .int .u8 (s.held : Int), .int .i64 (s.many : Int), vo, vp]
  out : w.ownsRow B 5 1 vo s.os.length (byC s.os)
  pr : w.ownsRow B 2 1 vp 512 ((List.range 512).map fun j => .int .i64 (s.probs j : Int))
end Go.Proofs.Ytbkjcngehhdchaa

/-!   The coder of ranges: the specification's shift. -/
namespace Go.Proofs.Ytbkjcngehhdchaa
open Go.RowKit
set_option linter.unusedVariables false
set_option linter.unusedSimpArgs false
theorem own_slice {w : World} {B n : Nat} {t : TypeId} {k : Nat} {v : Value} {xs : List Value} (h : w.ownsRow B t k v n xs) : ∃ a l c, v = .slice a l c := by
  obtain ⟨hl, ⟨h0, hn⟩ | ⟨g, cap, cur, h1, _⟩⟩ := h
  · exact ⟨_, _, _, h0⟩
  · exact ⟨_, _, _, h1⟩
/-- what a shift leaves as it is: every block of cells that are no bytes -/
def Keep (w w' : World) : Prop := ∀ (k : Nat) (cs : Array Value) (t : TypeId) (m : Nat × Nat), w.heap[k]? = some (.cells cs t m) → t ≠ 5 → w'.heap[k]? = some (.cells cs t m)
theorem Keep.refl (w : World) : Keep w w := fun k cs t m h _ => h
theorem Keep.alloc {w w' : World} (h : Keep w w') (X : Obj) : Keep w (w'.alloc X) := fun k cs t m h1 h2 => by
  have h3 := h k cs t m h1 h2
  rw [Below.heap_alloc _ _ _ (Array.getElem?_eq_some_iff.1 h3).1]; exact h3
theorem Keep.set {w w' : World} (h : Keep w w') {g : Nat} (hg : w.heap.size ≤ g) (k : Nat) (u : Value) : Keep w (w'.setCell ⟨g, k, none⟩ u) := fun j cs t m h1 h2 => by
  have h3 := (Array.getElem?_eq_some_iff.1 h1).1
  rw [heap_setCell_other _ _ _ _ (by show j ≠ g; omega)]; exact h j cs t m h1 h2
theorem and24 (n : Nat) (hn : n < 18446744073709551616) : bits BinOp.and IntKind.u64 ((n : Nat) : Int) 16777215 = ((n % 16777216 : Nat) : Int) := by
  have h32 : (BitVec.ofInt 64 16777215).toNat = 2 ^ 24 - 1 := by decide
  have e : (BitVec.ofInt 64 (n : Int) &&& BitVec.ofInt 64 16777215).toNat = n % 16777216 := by
    rw [BitVec.toNat_and, BitVec.toNat_ofInt, h32, Nat.and_two_pow_sub_one_eq_mod]
    omega
  show IntKind.u64.wrap ((BitVec.ofInt 64 (n : Int) &&& BitVec.ofInt 64 16777215).toNat : Nat) = _
  rw [e, IntKind.wrap_u64]
  omega
theorem low256 (n : Nat) : IntKind.u64.wrap (((n % 16777216 : Nat) : Int) * 256) = ((n % 16777216 * 256 : Nat) : Int) := by rw [IntKind.wrap_u64]; omega
theorem sh_hold {s : RS} (c1 : 4278190080 ≤ s.low) (c2 : s.low < 4294967296) : s.sh = { s with many := s.many + 1, low := s.low % 16777216 * 256 } := by
  unfold RS.sh; rw [if_neg (by omega)]
set_option maxRecDepth 100000 in
set_option maxHeartbeats 2000000 in
theorem shift_hold {w : World} {B : Nat} {s : RS} {V vo vp : Value} (h : ESV w B s V vo vp) (hB : B ≤ w.heap.size) (hs : s.low < 8589934592 ∧ s.held < 256 ∧ 1 ≤ s.many) (hN : s.os.length + s.many ≤ 900000) (c1 : 4278190080 ≤ s.low) (c2 : s.low < 4294967296) :
    Calls Try.prog 75 #[V] w fun e w' => (∃ V' vo', e = .returned V' ∧ ESV w' B s.sh V' vo' vp) ∧ Keep w w' ∧ Below B w w' := by
  obtain ⟨hv, ho, hp⟩ := h
  subst hv
  have hl := hs.1
  have hh := hs.2.1
  have hm := hs.2.2
  obtain ⟨oa, ol, oc, rfl⟩ := own_slice ho
  obtain ⟨pa, pl, pc, rfl⟩ := own_slice hp
  have c1I : (4278190080 : Int) ≤ (s.low : Int) := by omega
  have c2I : (s.low : Int) < 4294967296 := by omega
  obtain ⟨y, hy⟩ : ∃ y : Nat, y = s.low % 16777216 := ⟨_, rfl⟩
  obtain ⟨z, hz⟩ : ∃ z : Nat, z = y * 256 := ⟨_, rfl⟩
  have hand : bits BinOp.and IntKind.u64 (s.low : Int) 16777215 = (y : Int) := by rw [hy]; exact and24 s.low (by omega)
  have hwr : IntKind.u64.wrap ((y : Int) * 256) = (z : Int) := by rw [hz, hy]; exact low256 s.low
  have HS : Hid (s.sh = { s with many := s.many + 1, low := z }) := by rw [hz, hy]; exact sh_hold c1 c2
  have HO : Hid (w.ownsRow B 5 1 (.slice oa ol oc) s.os.length (byC s.os) ∧ w.ownsRow B 2 1 (.slice pa pl pc) 512 ((List.range 512).map fun j => .int .i64 (s.probs j : Int))) := ⟨ho, hp⟩
  have hd1 : decide ((s.low : Int) < 4278190080) = false := by simp; omega
  have hd2 : decide ((4294967296 : Int) ≤ (s.low : Int)) = false := by simp; omega
  clear ho hp c1 c2 hy hz c1I c2I hs
  go_enter Try.func75, Try.ntmps75
  go_wp2_with fail
  refine bodyPost_ret (results_cell_row rfl _ _ (w.heap.size + 1) 112 #[.int .u64 (z : Int), .int .u32 (s.width : Int), .int .u8 (s.held : Int), .int .i64 ((s.many : Int) + 1), .slice oa ol oc, .slice pa pl pc] (0, 0) _ rfl ?_ Try.underlying112 rfl ?_) rfl ⟨⟨_, .slice oa ol oc, rfl, ?_⟩, ((Keep.refl _).alloc _).alloc _, (((Below.refl _ _).alloc hB _).alloc (by simp; omega) _)⟩
  · have h := heap_alloc_new (w.alloc (.cells #[.int .u64 (z : Int), .int .u32 (s.width : Int), .int .u8 (s.held : Int), .int .i64 ((s.many : Int) + 1), .slice oa ol oc, .slice pa pl pc] 112)) (.cells #[.int .u64 (z : Int), .int .u32 (s.width : Int), .int .u8 (s.held : Int), .int .i64 ((s.many : Int) + 1), .slice oa ol oc, .slice pa pl pc] 112)
    simpa using h
  · kernel_rfl
  · rw [HS.out]
    exact ⟨rfl, (HO.out.1.alloc _).alloc _, (HO.out.2.alloc _).alloc _⟩
end Go.Proofs.Ytbkjcngehhdchaa
