/-
  A list of pieces that is drawn, and what a law of patches is drawn of.
-/
import Derived.Test.YtadimakdjndcdaeDrwPc
import Derived.Test.YtadimakdjndcdaeCmL
import Derived.Laws.AppendOwnNone
namespace Go.Proofs.Ytadimakdjndcdae
open Go.RowKit
set_option linter.unusedVariables false
set_option linter.unusedSimpArgs false
/-- a drawn list, and the reader -/
structure DP (w0 : World) (a : Option Addr) (len cap g : Nat) (W : World) (v : Value) (L : List PcI) : Prop where
  rd : RD w0 a len cap g W
  own : W.ownsRow w0.heap.size 43 3 v L.length (pcC L)
  sz : ∀ p ∈ L, p.d.size ≤ 5
theorem DP.apart {w0 : World} {a : Option Addr} {len cap g : Nat} {W : World} {v : Value} {L : List PcI} (h : DP w0 a len cap g W v L) : v.ownBlock ≠ some g := by
  obtain ⟨_, _, p, _, hh⟩ := h.rd
  obtain ⟨hl, ⟨h0, hn⟩ | ⟨k, c, cur, h1, h2, h3, _⟩⟩ := h.own
  · subst h0; intro c; cases c
  · subst h1
    intro c
    have c : some k = some g := c
    injection c with c
    subst c
    rw [h3] at hh
    injection hh with hh
    injection hh with _ hh _
    exact absurd hh (by decide)
theorem own3_keep {w w' : World} {B n : Nat} {e : TypeId} {v : Value} {xs : List Value} (h : w.ownsRow B e 3 v n xs) (hb : ∀ k, v.ownBlock = some k → w'.heap[k]? = w.heap[k]?) : w'.ownsRow B e 3 v n xs := by
  obtain ⟨h0, h1 | ⟨g, cap, cur, h1, h2, h3, h4, h5, h6, h7⟩⟩ := h
  · exact ⟨h0, Or.inl h1⟩
  · exact ⟨h0, Or.inr ⟨g, cap, cur, h1, h2, (hb g (by rw [h1]; rfl)).trans h3, h4, h5, h6, h7⟩⟩
theorem DP.rd3 {w0 : World} {a : Option Addr} {len cap g : Nat} {W W' : World} {v : Value} {L : List PcI} (h : DP w0 a len cap g W v L) (hr : Rd3 w0 a len cap g W W') : DP w0 a len cap g W' v L :=
  ⟨hr.rd, own3_keep h.own fun k hk => hr.grown.block k (h.own.lt k hk).2 (fun c => h.apart (hk.trans c)), h.sz⟩
theorem DP.alloc {w0 : World} {a : Option Addr} {len cap g : Nat} {W : World} {v : Value} {L : List PcI} (h : DP w0 a len cap g W v L) (o : Obj) : DP w0 a len cap g (W.alloc o) v L := ⟨h.rd.alloc o, h.own.alloc o, h.sz⟩
theorem RD.grownP {w0 : World} {a : Option Addr} {len cap g : Nat} {W W' : World} {row : Option Nat} (h : RD w0 a len cap g W) (hg : W.grownBy W' row) (hne : row ≠ some g) (hr : ∀ k, row = some k → w0.heap.size ≤ k) : RD w0 a len cap g W' := by
  have hl := h.lt
  obtain ⟨h1, h2, p, hp, hh⟩ := h
  exact ⟨h1.grown hg h1.size hr, h2, p, hp, by rw [hg.block g hl (fun c => hne c.symm)]; exact hh⟩
theorem DP.grown {w0 : World} {a : Option Addr} {len cap g : Nat} {W W' : World} {v v' : Value} {L : List PcI} {p : PcI} (h : DP w0 a len cap g W v L) (hp : p.d.size ≤ 5) (hg : W.grownBy W' v.ownBlock) (ho : W'.ownsRow w0.heap.size 43 3 v' (L ++ [p]).length (pcC (L ++ [p]))) : DP w0 a len cap g W' v' (L ++ [p]) :=
  ⟨h.rd.grownP hg h.apart (fun k hk => (h.own.lt k hk).1), ho, fun x hx => by
    rcases List.mem_append.1 hx with h1 | h1
    · exact h.sz x h1
    · obtain rfl : x = p := by simpa using h1
      exact hp⟩
set_option maxRecDepth 100000 in
set_option maxHeartbeats 2000000 in
theorem pieces_drawn {w0 : World} {a : Option Addr} {len cap g : Nat} {W : World} (hS : Src w0 a len) (h : RD w0 a len cap g W) (old : Int) (h0 : 0 ≤ old) (h1 : old ≤ 4000) :
    Calls Try.prog 19 #[.pointer (some ⟨g, 0, none⟩), .int .i64 old] W fun e w' => ∃ (v : Value) (L : List PcI), L.length ≤ 7 ∧ e = .returned v ∧ DP w0 a len cap g w' v L := by
  obtain ⟨i0, hi, hz0, hz1, hz2⟩ := info_parts Try.infP
  have HPC : Hid (∀ w, RD w0 a len cap g w → Calls Try.prog 40 #[.pointer (some ⟨g, 0, none⟩), .int .i64 old] w fun e w' => (∃ p : PcI, p.d.size ≤ 5 ∧ e = .returned (.agg #[.int .i64 p.f, .int .i64 p.l, .string p.d])) ∧ Rd3 w0 a len cap g w w') := fun w h => piece_drawn hS h old h0 h1
  have hown0 := World.ownsRow_made (e := 43) (size := 3) W #[] 0 h.below.size (by unfold maxLen; omega) rfl
  have HD0 : Hid (DP w0 a len cap g (W.alloc (.cells #[] 43)) (.slice (some ⟨W.heap.size, 0, none⟩) 0 0) []) := ⟨h.alloc _, hown0, fun p hp => by cases hp⟩
  clear hown0
  go_enter Try.func19, Try.ntmps19
  go_wp2_with fail
  refine (below_any hS HD0.out.rd 6 (by omega) (by omega)).mono ?_
  rintro e w1 ⟨⟨x, hx1, hx2, rfl⟩, hr1⟩
  have HD1 := hid (HD0.out.rd3 hr1)
  clear hr1 HD0 h
  go_wp2_with fail
  go_loopw [5, 6] (fun v t wr => ∃ (L : List PcI) (m : Nat), L.length + m ≤ 6 ∧ t = .int .i64 (m : Int) ∧ Hid (DP w0 a len cap g wr v L)) (fun _ t _ => (intN t).toNat)
  case atStart => exact ⟨[], x.toNat, by simp; omega, by rw [Int.toNat_of_nonneg hx1], HD1⟩
  case round =>
    rename_i v0 t0
    clear HD1 hx1 hx2
    obtain ⟨L, m, hm, rfl, HD⟩ := hrel
    by_cases hp : 0 < m
    · have hpI : (0 : Int) < (m : Int) := by omega
      have hwm : IntKind.i64.wrap ((m : Int) - 1) = ((m - 1 : Nat) : Int) := by rw [IntKind.wrap_i64]; omega
      go_wp2_with fail
      refine (HPC.out _ HD.out.rd).mono ?_
      rintro e w2 ⟨⟨p, hps, rfl⟩, hr2⟩
      have HD2 := hid ((HD.out.rd3 hr2).alloc (.cells #[.int .i64 p.f, .int .i64 p.l, .string p.d] 43))
      have HTS := hid (own3_made1 w2 0 p (Nat.zero_le _))
      clear hr2 HD
      go_wp2_with (at_builtin; (refine wpList_append_pcs rfl _ _ 24 rfl w0.heap.size i0 _ 32 Try.underlying24 hi hz0 hz1 hz2 rfl _ (.slice (some ⟨w2.heap.size, 0, none⟩) 1 1) L [p] 0 rfl HD2.out.own rfl HTS.out ?c3 ?c4 ?c5 ?_))
      case c3 => show L.length + 1 ≤ _; unfold maxLen; omega
      case c4 => show (L.length + 1) * 32 ≤ _; omega
      case c5 => exact HD2.out.rd.below.size
      intro v' w6 ho6 hg6
      have HD6 := hid (HD2.out.grown hps hg6 (by rw [List.length_append]; exact ho6))
      clear ho6 hg6 HD2 HTS
      go_wp2_with fail
      go_roundw
      case rel => exact ⟨L ++ [p], m - 1, by simp; omega, rfl, HD6⟩
      case measure => simp [intN]; omega
    · obtain rfl : m = 0 := by omega
      have hL6 : L.length ≤ 6 := by omega
      go_wp2_with fail
      refine (once_any hS HD.out.rd 20 (by omega) (by omega)).mono ?_
      rintro e w2 ⟨⟨x, rfl⟩, hr2⟩
      have HD2 := hid (HD.out.rd3 hr2)
      clear hr2 HD
      cases x with
      | false =>
        go_wp2_with fail
        go_ret
        exact ⟨_, L, by omega, rfl, HD2.out⟩
      | true =>
        go_wp2_with fail
        refine (off_any hS HD2.out.rd 0 old (by omega) (by omega) (by omega)).mono ?_
        rintro e w3 ⟨⟨x1, _, _, rfl⟩, hr3⟩
        have HD3 := hid (HD2.out.rd3 hr3)
        clear hr3 HD2
        go_wp2_with fail
        refine (off_any hS HD3.out.rd 0 old (by omega) (by omega) (by omega)).mono ?_
        rintro e w4 ⟨⟨x2, _, _, rfl⟩, hr4⟩
        have HD4 := hid (HD3.out.rd3 hr4)
        clear hr4 HD3
        go_wp2_with fail
        refine (bytes_any hS HD4.out.rd 1 (by omega) (by omega)).mono ?_
        rintro e w5 ⟨⟨l, hl, rfl⟩, hr5⟩
        have hsz : (⟨l.toArray⟩ : ByteArray).size ≤ 5 := by
          have : (⟨l.toArray⟩ : ByteArray).size = l.length := by simp [ByteArray.size]
          omega
        generalize (⟨l.toArray⟩ : ByteArray) = d at hsz ⊢
        have HD5 := hid ((HD4.out.rd3 hr5).alloc (.cells #[.int .i64 x1, .int .i64 x2, .string d] 43))
        have HTS := hid (own3_made1 w5 0 ⟨x1, x2, d⟩ (Nat.zero_le _))
        clear hr5 HD4
        go_wp2_with (at_builtin; (refine wpList_append_pcs rfl _ _ 24 rfl w0.heap.size i0 _ 32 Try.underlying24 hi hz0 hz1 hz2 rfl _ (.slice (some ⟨w5.heap.size, 0, none⟩) 1 1) L [⟨x1, x2, d⟩] 0 rfl HD5.out.own rfl HTS.out ?c3 ?c4 ?c5 ?_))
        case c3 => show L.length + 1 ≤ _; unfold maxLen; omega
        case c4 => show (L.length + 1) * 32 ≤ _; omega
        case c5 => exact HD5.out.rd.below.size
        intro v' w6 ho6 hg6
        have HD6 := hid (HD5.out.grown (p := ⟨x1, x2, d⟩) hsz hg6 (by rw [List.length_append]; exact ho6))
        clear ho6 hg6 HD5 HTS
        go_wp2_with fail
        go_ret
        exact ⟨v', L ++ [⟨x1, x2, d⟩], by simp; omega, rfl, HD6.out⟩
end Go.Proofs.Ytadimakdjndcdae
