/-
  Coding of ranges as plain mathematics: the numbers of a coder that writes.
-/
import Derived.Test.YtibciflmalfbjaaRows
import Derived.WalkKit
namespace Go.Proofs.Ytibciflmalfbjaa
set_option linter.unusedVariables false

/-- how likely 0 is, behind a bit -/
def movP (p b : Nat) : Nat := if b = 0 then p + (2048 - p) / 32 else p - p / 32
theorem movP_in {p : Nat} (b : Nat) (h : 1 ≤ p ∧ p ≤ 2047) : 1 ≤ movP p b ∧ movP p b ≤ 2047 := by unfold movP; split <;> omega

structure RS where
  os : List Nat
  held : Nat
  many : Nat
  low : Nat
  width : Nat
  probs : Nat → Nat

/-- what waits, with what is carried into it -/
def dg (h m c : Nat) : List Nat := (h + c) % 256 :: List.replicate (m - 1) ((255 + c) % 256)
def RS.out (s : RS) : List Nat := s.os ++ dg s.held s.many (s.low / 4294967296)
def RS.sh (s : RS) : RS :=
  if s.low < 4278190080 ∨ 4294967296 ≤ s.low then { s with os := s.out, held := s.low / 16777216 % 256, many := 1, low := s.low % 16777216 * 256 }
  else { s with many := s.many + 1, low := s.low % 16777216 * 256 }
def RS.shw (s : RS) : RS := { s.sh with width := s.width * 256 }
def RS.norm1 (s : RS) : RS := if s.width < 16777216 then s.shw else s
def RS.norm (s : RS) : RS := s.norm1.norm1
def RS.bound (s : RS) (x : Nat) : Nat := s.width / 2048 * s.probs x
def RS.moved (s : RS) (x b j : Nat) : Nat := if j = x then movP (s.probs x) b else s.probs j
def RS.pre (s : RS) (x b : Nat) : RS :=
  if b = 0 then { s with width := s.bound x, probs := s.moved x b } else { s with low := s.low + s.bound x, width := s.width - s.bound x, probs := s.moved x b }
def RS.put (s : RS) (x b : Nat) : RS := (s.pre x b).norm
def RS.start : RS := ⟨[], 0, 1, 0, 4294967295, fun _ => 1024⟩

structure RS.Fine (s : RS) : Prop where
  held : s.held < 256
  many : 1 ≤ s.many
  w1 : 8192 ≤ s.width
  w2 : s.width < 4294967296
  pr : ∀ j, 1 ≤ s.probs j ∧ s.probs j ≤ 2047
  bytes : ∀ x ∈ s.os, x < 256
  bd : s.low + s.width ≤ 8589934592
  cy : s.held = 255 → s.low + s.width ≤ 4294967296
theorem RS.Fine.low {s : RS} (h : s.Fine) : s.low < 8589934592 := by have := h.bd; have := h.w1; omega
theorem RS.start_fine : RS.start.Fine := ⟨by decide, by decide, by decide, by decide, fun j => ⟨(by show 1 ≤ 1024; omega), (by show 1024 ≤ 2047; omega)⟩, fun x hx => (by cases hx), by decide, fun c => absurd c (by decide)⟩
theorem dg_bytes (h m c : Nat) : ∀ x ∈ dg h m c, x < 256 := by
  intro x hx
  rcases List.mem_cons.1 hx with rfl | hx
  · omega
  · obtain ⟨_, rfl⟩ := List.mem_replicate.1 hx; omega
theorem RS.Fine.outs {s : RS} (h : s.Fine) : ∀ x ∈ s.out, x < 256 := by
  intro x hx
  rcases List.mem_append.1 hx with hx | hx
  · exact h.bytes x hx
  · exact dg_bytes _ _ _ x hx
theorem RS.Fine.bnd {s : RS} (h : s.Fine) (hw : 16777216 ≤ s.width) (x : Nat) : 8192 ≤ s.bound x ∧ s.bound x + 8192 ≤ s.width := by
  obtain ⟨h1, h2⟩ := h.pr x
  unfold RS.bound
  have a1 : s.width / 2048 * 1 ≤ s.width / 2048 * s.probs x := Nat.mul_le_mul_left _ h1
  have a2 : s.width / 2048 * s.probs x ≤ s.width / 2048 * 2047 := Nat.mul_le_mul_left _ h2
  omega
theorem RS.Fine.pre {s : RS} (h : s.Fine) (hw : 16777216 ≤ s.width) (x b : Nat) : (s.pre x b).Fine := by
  obtain ⟨h1, h2⟩ := h.bnd hw x
  have hp : ∀ j, 1 ≤ s.moved x b j ∧ s.moved x b j ≤ 2047 := fun j => by
    unfold RS.moved; split
    · exact movP_in b (h.pr x)
    · exact h.pr j
  have := h.w2
  have := h.bd
  have hc := h.cy
  unfold RS.pre
  split
  · exact ⟨h.held, h.many, h1, by show s.bound x < _; omega, hp, h.bytes, by show s.low + s.bound x ≤ _; omega, fun e => by have := hc e; show s.low + s.bound x ≤ _; omega⟩
  · exact ⟨h.held, h.many, by show _ ≤ s.width - s.bound x; omega, by show s.width - s.bound x < _; omega, hp, h.bytes, by show s.low + s.bound x + (s.width - s.bound x) ≤ _; omega, fun e => by have := hc e; show s.low + s.bound x + (s.width - s.bound x) ≤ _; omega⟩
theorem RS.Fine.shw {s : RS} (h : s.Fine) (hw : s.width < 16777216) : s.shw.Fine := by
  have h1 := h.w1
  have h2 := h.bd
  have h3 := h.cy
  have h4 := h.held
  unfold RS.shw RS.sh
  split
  · rename_i hc
    exact ⟨by show s.low / 16777216 % 256 < 256; omega, Nat.le_refl 1, by show _ ≤ s.width * 256; omega, by show s.width * 256 < _; omega, h.pr, h.outs, by show s.low % 16777216 * 256 + s.width * 256 ≤ _; omega,
      fun e => by
        have e : s.low / 16777216 % 256 = 255 := e
        show s.low % 16777216 * 256 + s.width * 256 ≤ 4294967296
        omega⟩
  · rename_i hc
    exact ⟨h4, by show 1 ≤ s.many + 1; omega, by show _ ≤ s.width * 256; omega, by show s.width * 256 < _; omega, h.pr, h.bytes, by show s.low % 16777216 * 256 + s.width * 256 ≤ _; omega,
      fun e => by
        have := h3 e
        show s.low % 16777216 * 256 + s.width * 256 ≤ 4294967296
        omega⟩
theorem RS.Fine.norm1 {s : RS} (h : s.Fine) : s.norm1.Fine := by
  unfold RS.norm1; split
  · exact h.shw ‹_›
  · exact h
theorem shw_width (s : RS) : s.shw.width = s.width * 256 := rfl
theorem RS.Fine.norm {s : RS} (h : s.Fine) : s.norm.Fine ∧ 16777216 ≤ s.norm.width := by
  refine ⟨h.norm1.norm1, ?_⟩
  have h1 := h.w1
  have e : ∀ t : RS, t.norm1.width = if t.width < 16777216 then t.width * 256 else t.width := fun t => by unfold RS.norm1; split <;> rfl
  show 16777216 ≤ s.norm1.norm1.width
  rw [e, e]
  by_cases c : s.width < 16777216
  · rw [if_pos c]; split <;> omega
  · rw [if_neg c, if_neg c]; omega
theorem RS.Fine.put {s : RS} (h : s.Fine) (hw : 16777216 ≤ s.width) (x b : Nat) : (s.put x b).Fine ∧ 16777216 ≤ (s.put x b).width := (h.pre hw x b).norm
/-- one step: the highest byte of low's 32 bits goes out -/
theorem sh_out {s : RS} (hm : 1 ≤ s.many) : s.sh.out = s.out ++ [s.low % 4294967296 / 16777216] ∧ s.sh.low = s.low % 4294967296 * 256 % 4294967296 := by
  unfold RS.sh
  split
  · rename_i hc
    refine ⟨?_, by show s.low % 16777216 * 256 = _; omega⟩
    show s.out ++ dg (s.low / 16777216 % 256) 1 (s.low % 16777216 * 256 / 4294967296) = _
    have e1 : s.low % 16777216 * 256 / 4294967296 = 0 := by omega
    rw [e1]
    show s.out ++ [(s.low / 16777216 % 256 + 0) % 256] = _
    congr 2; omega
  · rename_i hc
    refine ⟨?_, by show s.low % 16777216 * 256 = _; omega⟩
    show s.os ++ dg s.held (s.many + 1) (s.low % 16777216 * 256 / 4294967296) = s.os ++ dg s.held s.many (s.low / 4294967296) ++ _
    have e1 : s.low % 16777216 * 256 / 4294967296 = 0 := by omega
    have e2 : s.low / 4294967296 = 0 := by omega
    have e3 : s.low % 4294967296 / 16777216 = 255 := by omega
    rw [e1, e2, e3, List.append_assoc]
    obtain ⟨m, hme⟩ : ∃ m, s.many = m + 1 := ⟨s.many - 1, by omega⟩
    rw [hme]
    congr 1
    show (s.held + 0) % 256 :: List.replicate (m + 1) ((255 + 0) % 256) = (s.held + 0) % 256 :: (List.replicate m ((255 + 0) % 256) ++ [255])
    rw [List.replicate_succ']
theorem pre_out0 {s : RS} (x b : Nat) (hb : b = 0) : (s.pre x b).out = s.out := by
  unfold RS.pre; rw [if_pos hb]; rfl
end Go.Proofs.Ytibciflmalfbjaa
