/-
  The coder of ranges: the specification's.
-/
import Derived.Test.YtibciflmalfbjaaRngF
import Derived.Laws.MakeOwn
namespace Go.Proofs.Ytibciflmalfbjaa
open Go.RowKit
set_option linter.unusedVariables false
set_option linter.unusedSimpArgs false
theorem Try.infI6 : (Try.prog.info? 2).map (fun i => (i.zero, i.size, i.bytes)) = some (some (.int .i64 0), 1, 8) := by kernel_rfl
set_option maxRecDepth 100000 in
set_option maxHeartbeats 1000000 in
theorem probs_any (w : World) :
    Calls Try.prog 45 #[] w fun e w' => (∃ v, e = .returned v ∧ w'.ownsRow w.heap.size 2 1 v 512 (List.replicate 512 (.int .i64 1024))) ∧ Below w.heap.size w w' := by
  obtain ⟨i0, hi, hz0, hz1, hz2⟩ := info_parts Try.infI6
  go_enter Try.func45, Try.ntmps45
  go_wp2_with fail
  go_loopw [1, 2] (fun v c wr => ∃ k : Nat, k ≤ 512 ∧ c = .int .i64 (k : Int) ∧ wr.ownsRow w.heap.size 2 1 v k (List.replicate k (.int .i64 1024)) ∧ Below w.heap.size w wr) (fun _ c _ => 512 - natOfI c)
  case atStart => exact ⟨0, by omega, rfl, World.ownsRow_made w #[] 0 (Nat.le_refl _) (by unfold maxLen; omega) rfl, (Below.refl _ _).alloc (Nat.le_refl _) _⟩
  case round =>
    obtain ⟨k, hk, rfl, hown, hb⟩ := hrel
    by_cases hlt : k < 512
    · have hltI : (k : Int) < 512 := by omega
      have hsz := hb.size
      go_wp2_with (at_builtin; (refine wpList_append_own _ rfl _ _ 43 rfl w.heap.size 2 i0 (.int .i64 0) 1 8 Try.underlying43 hi hz0 hz1 hz2 rfl (by decide) _ _ _ rfl (hown.alloc _) ⟨wr.heap.size, 0, none⟩ 1 1 [_] rfl rfl (cell_one_new _ _ _) ?c2 ?c3 ?c4 ?c5 ?_))
      case c2 => intro u hu; simp at hu; subst hu; rfl
      case c3 => unfold maxLen; omega
      case c4 => omega
      case c5 => simp; omega
      intro v' w1 hown' hgrow _
      have hb2 : Below w.heap.size w w1 := (hb.alloc (by omega) _).grown hgrow (by simp; omega) (fun k hk => (hown.lt k hk).1)
      have H1 : Hid (w1.ownsRow w.heap.size 2 1 v' (k + 1) (List.replicate (k + 1) (.int .i64 1024)) ∧ Below w.heap.size w w1) := ⟨by rw [List.replicate_succ']; exact hown', hb2⟩
      clear hown' hb2 hgrow hown hb
      go_wp2_with fail
      go_roundw
      case rel => exact ⟨k + 1, by omega, by go_num, H1.out.1, H1.out.2⟩
      case measure => simp [natOfI]; omega
    · obtain rfl : k = 512 := by omega
      go_wp2_with fail
      go_ret
      exact ⟨⟨_, rfl, hown⟩, hb⟩
/-- the specification's coder as a value: its bytes and its numbers in rows of their own -/
structure ESV (w : World) (B : Nat) (s : RS) (V : Value) (vo vp : Value) : Prop where
  val : V = .agg #[.int .u64 (s.low : Int), .int .u32 (s.width : Int), .int .u8 (s.held : Int), .int .i64 (s.many : Int), vo, vp]
  out : w.ownsRow B 5 1 vo s.os.length (byC s.os)
  pr : w.ownsRow B 2 1 vp 512 ((List.range 512).map fun j => .int .i64 (s.probs j : Int))
end Go.Proofs.Ytibciflmalfbjaa
