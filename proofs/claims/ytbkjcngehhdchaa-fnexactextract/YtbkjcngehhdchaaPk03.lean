/-
  Several texts of this seat as one: PutText, RngMath, Mov.
-/
import Derived.Test.YtbkjcngehhdchaaPk02
import Derived.Test.YtbkjcngehhdchaaRows
import Derived.WalkKit
import Derived.Test.YtbkjcngehhdchaaPk00

/-!   What PutText answers, the code's and the specification's. -/
namespace Go.Proofs.Ytbkjcngehhdchaa
open Go.RowKit

def putTextOut (s : ByteArray) : ByteArray := ⟨(put s.size).toArray⟩ ++ s
set_option maxRecDepth 100000 in
set_option maxHeartbeats 1000000 in
theorem sputText_any (s : ByteArray) (w : World) (hs : s.size ≤ 70368744177664) :
    Calls Try.prog 27 #[.string s] w fun e w' => e = .returned (.string (putTextOut s)) ∧ Below w.heap.size w w' := by
  have hpt := put_ten (n := s.size) (by omega)
  go_enter Try.func27, Try.ntmps27
  go_wp2_with fail
  refine (sput_any s.size _ (by omega)).mono ?_
  rintro e w1 ⟨rfl, hb1⟩
  go_wp2_with fail
  go_ret
  exact ⟨rfl, hb1⟩
set_option maxRecDepth 100000 in
set_option maxHeartbeats 1000000 in
theorem cputText_any (s : ByteArray) (w : World) (hs : s.size ≤ 70368744177664) :
    Calls Try.prog 34 #[.string s] w fun e w' => e = .returned (.string (putTextOut s)) ∧ Below w.heap.size w w' := by
  have hpt := put_ten (n := s.size) (by omega)
  go_enter Try.func34, Try.ntmps34
  go_wp2_with fail
  refine (cput_any s.size _ (by omega)).mono ?_
  rintro e w1 ⟨rfl, hb1⟩
  go_wp2_with fail
  go_ret
  exact ⟨rfl, hb1⟩
end Go.Proofs.Ytbkjcngehhdchaa

/-!   Coding of ranges as plain mathematics: the numbers of a coder that writes. -/
namespace Go.Proofs.Ytbkjcngehhdchaa
set_option linter.unusedVariables false

/-- how likely 0 is, behind a bit -/
def movP (p b : Nat) : Nat := if b = 0 then p + (2048 - p) / 32 else p - p / 32
theorem movP_in {p : Nat} (b : Nat) (h : 1 ≤ p ∧ p ≤ 2047) : 1 ≤ movP p b ∧ movP p b ≤ 2047 := by unfold movP; split <;> omega

structure RS where
  os : List Nat
  held : Nat
  many : Nat
  low : Nat
  width : Nat
  probs : Nat → Nat

/-- what waits, with what is carried into it -/
def dg (h m c : Nat) : List Nat := (h + c) % 256 :: List.replicate (m - 1) ((255 + c) % 256)
def RS.out (s : RS) : List Nat := s.os ++ dg s.held s.many (s.low / 4294967296)
def RS.sh (s : RS) : RS :=
  if s.low < 4278190080 ∨ 4294967296 ≤ s.low then { s with os := s.out, held := s.low / 16777216 % 256, many := 1, low := s.low % 16777216 * 256 }
  else { s with many := s.many + 1, low := s.low % 16777216 * 256 }
def RS.shw (s : RS) : RS := { s.sh with width := s.width * 256 }
def RS.norm1 (s : RS) : RS := if s.width < 16777216 then s.shw else s
def RS.norm (s : RS) : RS := s.norm1.norm1
def RS.bound (s : RS) (x : Nat) : Nat := s.width / 2048 * s.probs x
def RS.moved (s : RS) (x b j : Nat) : Nat := if j = x then movP (s.probs x) b else s.probs j
def RS.pre (s : RS) (x b : Nat) : RS :=
  if b = 0 then { s with width := s.bound x, probs := s.moved x b } else { s with low := s.low + s.bound x, width := s.width - s.bound x, probs := s.moved x b }
def RS.put (s : RS) (x b : Nat) : RS := (s.pre x b).norm
def RS.start : RS := ⟨[], 0, 1, 0, 4294967295, fun _ => 1024⟩

structure RS.Fine (s : RS) : Prop where
  held : s.held < 256
  many : 1 ≤ s.many
  w1 : 8192 ≤ s.width
  w2 : s.width < 4294967296
  pr : ∀ j, 1 ≤ s.probs j ∧ s.probs j ≤ 2047
  bytes : ∀ x ∈ s.os, x < 256
  bd : s.low + s.width ≤ 8589934592
  cy : s.held = 255 → s.low + s.width ≤ 4294967296
theorem RS.Fine.low {s : RS} (h : s.Fine) : s.low < 8589934592 := by have := h.bd; have := h.w1; omega
theorem RS.start_fine : RS.start.Fine := ⟨by decide, by decide, by decide, by decide, fun j => ⟨(by show 1 ≤ 1024; omega), (by show 1024 ≤ 2047; omega)⟩, fun x hx => (by cases hx), by decide, fun c => absurd c (by decide)⟩
theorem dg_bytes (h m c : Nat) : ∀ x ∈ dg h m c, x < 256 := by
  intro x hx
  rcases List.mem_cons.1 hx with rfl | hx
  · omega
  · obtain ⟨_, rfl⟩ := List.mem_replicate.1 hx; omega
theorem RS.Fine.outs {s : RS} (h : s.Fine) : ∀ x ∈ s.out, x < 256 := by
  intro x hx
  rcases List.mem_append.1 hx with hx | hx
  · exact h.bytes x hx
  · exact dg_bytes _ _ _ x hx
theorem RS.Fine.bnd {s : RS} (h : s.Fine) (hw : 16777216 ≤ s.width) (x : Nat) : 8192 ≤ s.bound x ∧ s.bound x + 8192 ≤ s.width := by
  obtain ⟨h1, h2⟩ := h.pr x
  unfold RS.bound
  have a1 : s.width / 2048 * 1 ≤ s.width / 2048 * s.probs x := Nat.mul_le_mul_left _ h1
  have a2 : s.width / 2048 * s.probs x ≤ s.width / 2048 * 2047 := Nat.mul_le_mul_left _ h2
  omega
theorem RS.Fine.pre {s : RS} (h : s.Fine) (hw : 16777216 ≤ s.width) (x b : Nat) : (s.pre x b).Fine := by
  obtain ⟨h1, h2⟩ := h.bnd hw x
  have hp : ∀ j, 1 ≤ s.moved x b j ∧ s.moved x b j ≤ 2047 := fun j => by
    unfold RS.moved; split
    · exact movP_in b (h.pr x)
    · exact h.pr j
  have := h.w2
  have := h.bd
  have hc := h.cy
  unfold RS.pre
  split
  · exact ⟨h.held, h.many, h1, by show s.bound x < _; omega, hp, h.bytes, by show s.low + s.bound x ≤ _; omega, fun e => by have := hc e; show s.low + s.bound x ≤ _; omega⟩
  · exact ⟨h.held, h.many, by show _ ≤ s.width - s.bound x; omega, by show s.width - s.bound x < _; omega, hp, h.bytes, by show s.low + s.bound x + (s.width - s.bound x) ≤ _; omega, fun e => by have := hc e; show s.low + s.bound x + (s.width - s.bound x) ≤ _; omega⟩
theorem RS.Fine.shw {s : RS} (h : s.Fine) (hw : s.width < 16777216) : s.shw.Fine := by
  have h1 := h.w1
  have h2 := h.bd
  have h3 := h.cy
  have h4 := h.held
  unfold RS.shw RS.sh
  split
  · rename_i hc
    exact ⟨by show s.low / 16777216 % 256 < 256; omega, Nat.le_refl 1, by show _ ≤ s.width * 256; omega, by show s.width * 256 < _; omega, h.pr, h.outs, by show s.low % 16777216 * 256 + s.width * 256 ≤ _; omega,
      fun e => by
        have e : s.low / 16777216 % 256 = 255 := e
        show s.low % 16777216 * 256 + s.width * 256 ≤ 4294967296
        omega⟩
  · rename_i hc
    exact ⟨h4, by show 1 ≤ s.many + 1; omega, by show _ ≤ s.width * 256; omega, by show s.width * 256 < _; omega, h.pr, h.bytes, by show s.low % 16777216 * 256 + s.width * 256 ≤ _; omega,
      fun e => by
        have := h3 e
        show s.low % 16777216 * 256 + s.width * 256 ≤ 4294967296
        omega⟩
theorem RS.Fine.norm1 {s : RS} (h : s.Fine) : s.norm1.Fine := by
  unfold RS.norm1; split
  · exact h.shw ‹_›
  · exact h
theorem shw_width (s : RS) : s.shw.width = s.width * 256 := rfl
theorem RS.Fine.norm {s : RS} (h : s.Fine) : s.norm.Fine ∧ 16777216 ≤ s.norm.width := by
  refine ⟨h.norm1.norm1, ?_⟩
  have h1 := h.w1
  have e : ∀ t : RS, t.norm1.width = if t.width < 16777216 then t.width * 256 else t.width := fun t => by unfold RS.norm1; split <;> rfl
  show 16777216 ≤ s.norm1.norm1.width
  rw [e, e]
  by_cases c : s.width < 16777216
  · rw [if_pos c]; split <;> omega
  · rw [if_neg c, if_neg c]; omega
theorem RS.Fine.put {s : RS} (h : s.Fine) (hw : 16777216 ≤ s.width) (x b : Nat) : (s.put x b).Fine ∧ 16777216 ≤ (s.put x b).width := (h.pre hw x b).norm
/-- one step: the highest byte of low's 32 bits goes out -/
theorem sh_out {s : RS} (hm : 1 ≤ s.many) : s.sh.out = s.out ++ [s.low % 4294967296 / 16777216] ∧ s.sh.low = s.low % 4294967296 * 256 % 4294967296 := by
  unfold RS.sh
  split
  · rename_i hc
    refine ⟨?_, by show s.low % 16777216 * 256 = _; omega⟩
    show s.out ++ dg (s.low / 16777216 % 256) 1 (s.low % 16777216 * 256 / 4294967296) = _
    have e1 : s.low % 16777216 * 256 / 4294967296 = 0 := by omega
    rw [e1]
    show s.out ++ [(s.low / 16777216 % 256 + 0) % 256] = _
    congr 2; omega
  · rename_i hc
    refine ⟨?_, by show s.low % 16777216 * 256 = _; omega⟩
    show s.os ++ dg s.held (s.many + 1) (s.low % 16777216 * 256 / 4294967296) = s.os ++ dg s.held s.many (s.low / 4294967296) ++ _
    have e1 : s.low % 16777216 * 256 / 4294967296 = 0 := by omega
    have e2 : s.low / 4294967296 = 0 := by omega
    have e3 : s.low % 4294967296 / 16777216 = 255 := by omega
    rw [e1, e2, e3, List.append_assoc]
    obtain ⟨m, hme⟩ : ∃ m, s.many = m + 1 := ⟨s.many - 1, by omega⟩
    rw [hme]
    congr 1
    show (s.held + 0) % 256 :: List.replicate (m + 1) ((255 + 0) % 256) = (s.held + 0) % 256 :: (List.replicate m ((255 + 0) % 256) ++ [255])
    rw [List.replicate_succ']
theorem pre_out0 {s : RS} (x b : Nat) (hb : b = 0) : (s.pre x b).out = s.out := by
  unfold RS.pre; rw [if_pos hb]; rfl
end Go.Proofs.Ytbkjcngehhdchaa

/-!   What a number becomes behind a bit: the code's and the specification's. -/
namespace Go.Proofs.Ytbkjcngehhdchaa
open Go.RowKit
def movI (p b : Int) : Int := if 1 ≤ p ∧ p ≤ 2047 ∧ (b = 0 ∨ b = 1) then (if b = 0 then p + (2048 - p) / 32 else p - p / 32) else -1
theorem mov_out {p b : Int} (h : ¬ (1 ≤ p ∧ p ≤ 2047)) : movI p b = -1 := by unfold movI; rw [if_neg (fun c => h ⟨c.1, c.2.1⟩)]
theorem mov_bit {p b : Int} (h0 : b ≠ 0) (h1 : b ≠ 1) : movI p b = -1 := by unfold movI; rw [if_neg (fun c => by omega)]
theorem mov_zero {p : Int} (h1 : 1 ≤ p) (h2 : p ≤ 2047) : movI p 0 = p + (2048 - p) / 32 := by unfold movI; rw [if_pos ⟨h1, h2, Or.inl rfl⟩, if_pos rfl]
theorem mov_one {p : Int} (h1 : 1 ≤ p) (h2 : p ≤ 2047) : movI p 1 = p - p / 32 := by unfold movI; rw [if_pos ⟨h1, h2, Or.inr rfl⟩, if_neg (by decide)]
set_option maxRecDepth 100000 in
theorem moved_any (p b : Int) (w : World) :
    Calls Try.prog 103 #[.int .i64 p, .int .i64 b] w fun e w' => e = .returned (.int .i64 (movI p b)) ∧ w' = w := by
  by_cases h1 : p < 1
  · rw [mov_out (by omega)]
    go_enter Try.func103, Try.ntmps103
    go_wp2_with fail
    go_ret
    exact ⟨rfl, rfl⟩
  by_cases h2 : 2048 ≤ p
  · rw [mov_out (by omega)]
    go_enter Try.func103, Try.ntmps103
    go_wp2_with fail
    go_ret
    exact ⟨rfl, rfl⟩
  by_cases h3 : b = 0
  · subst h3
    rw [mov_zero (by omega) (by omega)]
    go_enter Try.func103, Try.ntmps103
    go_wp2_with fail
    go_ret
    exact ⟨rfl, rfl⟩
  by_cases h4 : b = 1
  · subst h4
    rw [mov_one (by omega) (by omega)]
    go_enter Try.func103, Try.ntmps103
    go_wp2_with fail
    go_ret
    exact ⟨rfl, rfl⟩
  · rw [mov_bit h3 h4]
    go_enter Try.func103, Try.ntmps103
    go_wp2_with fail
    go_ret
    exact ⟨rfl, rfl⟩
set_option maxRecDepth 100000 in
theorem smoved_in (p b : Int) (w : World) (h1 : 1 ≤ p) (h2 : p ≤ 2047) (hb : b = 0 ∨ b = 1) :
    Calls Try.prog 84 #[.int .i64 p, .int .i64 b] w fun e w' => e = .returned (.int .i64 (movI p b)) ∧ w' = w := by
  rcases hb with rfl | rfl
  · rw [mov_zero (by omega) (by omega)]
    go_enter Try.func84, Try.ntmps84
    go_wp2_with fail
    go_ret
    exact ⟨rfl, rfl⟩
  · rw [mov_one (by omega) (by omega)]
    go_enter Try.func84, Try.ntmps84
    go_wp2_with fail
    go_ret
    exact ⟨rfl, rfl⟩
end Go.Proofs.Ytbkjcngehhdchaa
