/-
  Several texts of this seat as one: DrwPcs2, DrwO3, OffN.
-/
import Derived.Test.YtpeddaljgmkomaaPk27
import Derived.Test.YtpeddaljgmkomaaPk26
import Derived.Test.YtpeddaljgmkomaaPk19
import Derived.Test.YtpeddaljgmkomaaPk03

/-!   A list of pieces that is drawn, and all beside it kept; what the law of composed deltas is drawn of. -/
namespace Go.Proofs.Ytpeddaljgmkomaa
open Go.RowKit
set_option linter.unusedVariables false
set_option linter.unusedSimpArgs false
structure DW (w0 : World) (a : Option Addr) (len cap g : Nat) (W0 W : World) (v : Value) (L : List PcI) : Prop where
  gl : g < W0.heap.size
  r3 : Rd3 w0 a len cap g W0 W
  own : W.ownsRow W0.heap.size 89 3 v L.length (pcC L)
  sz : ∀ p ∈ L, p.d.size ≤ 5
theorem DW.apart {w0 : World} {a : Option Addr} {len cap g : Nat} {W0 W : World} {v : Value} {L : List PcI} (h : DW w0 a len cap g W0 W v L) : v.ownBlock ≠ some g := fun e => by
  have := (h.own.lt g e).1
  have := h.gl
  omega
theorem DW.rd3 {w0 : World} {a : Option Addr} {len cap g : Nat} {W0 W W' : World} {v : Value} {L : List PcI} (h : DW w0 a len cap g W0 W v L) (hr : Rd3 w0 a len cap g W W') : DW w0 a len cap g W0 W' v L :=
  ⟨h.gl, h.r3.trans hr, own3_keep h.own fun k hk => hr.grown.block k (h.own.lt k hk).2 (fun c => h.apart (hk.trans c)), h.sz⟩
theorem DW.alloc {w0 : World} {a : Option Addr} {len cap g : Nat} {W0 W : World} {v : Value} {L : List PcI} (h : DW w0 a len cap g W0 W v L) (o : Obj) : DW w0 a len cap g W0 (W.alloc o) v L := ⟨h.gl, h.r3.alloc o, h.own.alloc o, h.sz⟩
theorem DW.grown {w0 : World} {a : Option Addr} {len cap g : Nat} {W0 W W' : World} {v v' : Value} {L : List PcI} {p : PcI} (h : DW w0 a len cap g W0 W v L) (hp : p.d.size ≤ 5) (hg : W.grownBy W' v.ownBlock) (ho : W'.ownsRow W0.heap.size 89 3 v' (L ++ [p]).length (pcC (L ++ [p]))) (hB : w0.heap.size ≤ W0.heap.size) : DW w0 a len cap g W0 W' v' (L ++ [p]) :=
  ⟨h.gl, ⟨h.r3.rd.grownP hg h.apart (fun k hk => Nat.le_trans hB (h.own.lt k hk).1), ⟨hg.os.trans h.r3.grown.os, hg.tape.trans h.r3.grown.tape, hg.output.trans h.r3.grown.output, Nat.le_trans h.r3.grown.size hg.size, fun k hk hne => (hg.block k (Nat.lt_of_lt_of_le hk h.r3.grown.size) (fun c => by have := (h.own.lt k c.symm).1; omega)).trans (h.r3.grown.block k hk hne)⟩⟩, ho, fun x hx => by
    rcases List.mem_append.1 hx with h1 | h1
    · exact h.sz x h1
    · obtain rfl : x = p := by simpa using h1
      exact hp⟩
set_option maxRecDepth 100000 in
set_option maxHeartbeats 2000000 in
theorem pieces_kept {w0 : World} {a : Option Addr} {len cap g : Nat} {W : World} (hS : Src w0 a len) (h : RD w0 a len cap g W) (old : Int) (h0 : 0 ≤ old) (h1 : old ≤ 4000) :
    Calls Try.prog 89 #[.pointer (some ⟨g, 0, none⟩), .int .i64 old] W fun e w' => ∃ (v : Value) (L : List PcI), L.length ≤ 7 ∧ e = .returned v ∧ DW w0 a len cap g W w' v L := by
  have HBB : Hid (w0.heap.size ≤ W.heap.size) := h.below.size
  obtain ⟨i0, hi, hz0, hz1, hz2⟩ := info_parts Try.infP
  have HPC : Hid (∀ w, RD w0 a len cap g w → Calls Try.prog 103 #[.pointer (some ⟨g, 0, none⟩), .int .i64 old] w fun e w' => (∃ p : PcI, p.d.size ≤ 5 ∧ e = .returned (.agg #[.int .i64 p.f, .int .i64 p.l, .string p.d])) ∧ Rd3 w0 a len cap g w w') := fun w h => piece_drawn hS h old h0 h1
  have hown0 := World.ownsRow_made (e := 89) (size := 3) W #[] 0 (Nat.le_refl _) (by unfold maxLen; omega) rfl
  have HD0 : Hid (DW w0 a len cap g W (W.alloc (.cells #[] 89)) (.slice (some ⟨W.heap.size, 0, none⟩) 0 0) []) := ⟨h.lt, (Rd3.refl h).alloc _, hown0, fun p hp => by cases hp⟩
  clear hown0
  go_enter Try.func89, Try.ntmps89
  go_wp2_with fail
  refine (below_any hS HD0.out.r3.rd 6 (by omega) (by omega)).mono ?_
  rintro e w1 ⟨⟨x, hx1, hx2, rfl⟩, hr1⟩
  have HD1 := hid (HD0.out.rd3 hr1)
  clear hr1 HD0 h
  go_wp2_with fail
  go_loopw [5, 6] (fun v t wr => ∃ (L : List PcI) (m : Nat), L.length + m ≤ 6 ∧ t = .int .i64 (m : Int) ∧ Hid (DW w0 a len cap g W wr v L)) (fun _ t _ => (intN t).toNat)
  case atStart => exact ⟨[], x.toNat, by simp; omega, by rw [Int.toNat_of_nonneg hx1], HD1⟩
  case round =>
    rename_i v0 t0
    clear HD1 hx1 hx2
    obtain ⟨L, m, hm, rfl, HD⟩ := hrel
    by_cases hp : 0 < m
    · have hpI : (0 : Int) < (m : Int) := by omega
      have hwm : IntKind.i64.wrap ((m : Int) - 1) = ((m - 1 : Nat) : Int) := by rw [IntKind.wrap_i64]; omega
      go_wp2_with fail
      refine (HPC.out _ HD.out.r3.rd).mono ?_
      rintro e w2 ⟨⟨p, hps, rfl⟩, hr2⟩
      have HD2 := hid ((HD.out.rd3 hr2).alloc (.cells #[.int .i64 p.f, .int .i64 p.l, .string p.d] 89))
      have HTS := hid (own3_made1 w2 0 p (Nat.zero_le _))
      clear hr2 HD
      go_wp2_with (at_builtin; (refine wpList_append_pcs rfl _ _ 52 rfl W.heap.size i0 _ 32 Try.underlying52 hi hz0 hz1 hz2 rfl _ (.slice (some ⟨w2.heap.size, 0, none⟩) 1 1) L [p] 0 rfl HD2.out.own rfl HTS.out ?c3 ?c4 ?c5 ?_))
      case c3 => show L.length + 1 ≤ _; unfold maxLen; omega
      case c4 => show (L.length + 1) * 32 ≤ _; omega
      case c5 => exact HD2.out.r3.grown.size
      intro v' w6 ho6 hg6
      have HD6 := hid (HD2.out.grown hps hg6 (by rw [List.length_append]; exact ho6) HBB.out)
      clear ho6 hg6 HD2 HTS
      go_wp2_with fail
      go_roundw
      case rel => exact ⟨L ++ [p], m - 1, by simp; omega, rfl, HD6⟩
      case measure => simp [intN]; omega
    · obtain rfl : m = 0 := by omega
      have hL6 : L.length ≤ 6 := by omega
      go_wp2_with fail
      refine (once_any hS HD.out.r3.rd 20 (by omega) (by omega)).mono ?_
      rintro e w2 ⟨⟨x, rfl⟩, hr2⟩
      have HD2 := hid (HD.out.rd3 hr2)
      clear hr2 HD
      cases x with
      | false =>
        go_wp2_with fail
        go_ret
        exact ⟨_, L, by omega, rfl, HD2.out⟩
      | true =>
        go_wp2_with fail
        refine (off_any hS HD2.out.r3.rd 0 old (by omega) (by omega) (by omega)).mono ?_
        rintro e w3 ⟨⟨x1, _, _, rfl⟩, hr3⟩
        have HD3 := hid (HD2.out.rd3 hr3)
        clear hr3 HD2
        go_wp2_with fail
        refine (off_any hS HD3.out.r3.rd 0 old (by omega) (by omega) (by omega)).mono ?_
        rintro e w4 ⟨⟨x2, _, _, rfl⟩, hr4⟩
        have HD4 := hid (HD3.out.rd3 hr4)
        clear hr4 HD3
        go_wp2_with fail
        refine (bytes_any hS HD4.out.r3.rd 1 (by omega) (by omega)).mono ?_
        rintro e w5 ⟨⟨l, hl, rfl⟩, hr5⟩
        have hsz : (⟨l.toArray⟩ : ByteArray).size ≤ 5 := by
          have : (⟨l.toArray⟩ : ByteArray).size = l.length := by simp [ByteArray.size]
          omega
        generalize (⟨l.toArray⟩ : ByteArray) = d at hsz ⊢
        have HD5 := hid ((HD4.out.rd3 hr5).alloc (.cells #[.int .i64 x1, .int .i64 x2, .string d] 89))
        have HTS := hid (own3_made1 w5 0 ⟨x1, x2, d⟩ (Nat.zero_le _))
        clear hr5 HD4
        go_wp2_with (at_builtin; (refine wpList_append_pcs rfl _ _ 52 rfl W.heap.size i0 _ 32 Try.underlying52 hi hz0 hz1 hz2 rfl _ (.slice (some ⟨w5.heap.size, 0, none⟩) 1 1) L [⟨x1, x2, d⟩] 0 rfl HD5.out.own rfl HTS.out ?c3 ?c4 ?c5 ?_))
        case c3 => show L.length + 1 ≤ _; unfold maxLen; omega
        case c4 => show (L.length + 1) * 32 ≤ _; omega
        case c5 => exact HD5.out.r3.grown.size
        intro v' w6 ho6 hg6
        have HD6 := hid (HD5.out.grown (p := ⟨x1, x2, d⟩) hsz hg6 (by rw [List.length_append]; exact ho6) HBB.out)
        clear ho6 hg6 HD5 HTS
        go_wp2_with fail
        go_ret
        exact ⟨v', L ++ [⟨x1, x2, d⟩], by simp; omega, rfl, HD6.out⟩
end Go.Proofs.Ytpeddaljgmkomaa

/-!   Another text, drawn of one, and all beside the reader kept. -/
namespace Go.Proofs.Ytpeddaljgmkomaa
open Go.RowKit
set_option linter.unusedVariables false
set_option linter.unusedSimpArgs false
set_option maxRecDepth 100000 in
set_option maxHeartbeats 2000000 in
theorem other_kept {w0 : World} {a : Option Addr} {len cap g : Nat} {W : World} (hS : Src w0 a len) (h : RD w0 a len cap g W) (s0 : ByteArray) (hs0 : s0.size ≤ 600) :
    Calls Try.prog 62 #[.pointer (some ⟨g, 0, none⟩), .string s0] W fun e w' => (∃ s : ByteArray, s.size ≤ 600 ∧ e = .returned (.string s)) ∧ Rd3 w0 a len cap g W w' := by
  have HS : Hid (Src w0 a len) := hS
  go_enter Try.func62, Try.ntmps62
  go_wp2_with fail
  refine (below_any HS.out h 4 (by omega) (by omega)).mono ?_
  rintro e w1 ⟨⟨x0, hx1, hx2, rfl⟩, hr1⟩
  have HR : Hid (Rd3 w0 a len cap g W w1) := hr1
  obtain ⟨k0, rfl⟩ := Int.eq_ofNat_of_zero_le hx1
  clear hr1 h hx1 hS
  go_wp2_with fail
  go_loopw [1, 5] (fun y c wr => ∃ (s : ByteArray) (k : Nat), s.size ≤ 600 ∧ y = .string s ∧ c = .int .i64 (k : Int) ∧ k ≤ 4 ∧ Hid (Rd3 w0 a len cap g W wr)) (fun _ c _ => (lonIntOf c).toNat)
  case atStart => exact ⟨s0, k0, hs0, rfl, rfl, by omega, HR⟩
  case round =>
    clear HR hx2
    obtain ⟨s, k, hs, rfl, rfl, hk, HR⟩ := hrel
    by_cases hk0 : 0 < k
    · have hkI : (0 : Int) < (k : Int) := by omega
      have hsI : (s.size : Int) ≤ 600 := by omega
      go_wp2_with fail
      refine (below_any HS.out HR.out.rd ((s.size : Int) + 1) (by omega) (by omega)).mono ?_
      rintro e w2 ⟨⟨x, hx1, hx2, rfl⟩, hr2⟩
      obtain ⟨x, rfl⟩ := Int.eq_ofNat_of_zero_le hx1
      have HR2 : Hid (Rd3 w0 a len cap g W w2) := HR.out.trans hr2
      have hxs : (x : Int) ≤ (s.size : Int) := by omega
      have hxN : x ≤ s.size := by omega
      clear hr2 HR hx1 hx2
      go_wp2_with fail
      refine (below_any HS.out HR2.out.rd ((s.size : Int) - (x : Int) + 1) (by omega) (by omega)).mono ?_
      rintro e w3 ⟨⟨y, hy1, hy2, rfl⟩, hr3⟩
      obtain ⟨y, rfl⟩ := Int.eq_ofNat_of_zero_le hy1
      have HR3 : Hid (Rd3 w0 a len cap g W w3) := HR2.out.trans hr3
      obtain ⟨z, hz⟩ : ∃ z, z = x + y := ⟨_, rfl⟩
      have hwz : IntKind.i64.wrap ((x : Int) + (y : Int)) = (z : Int) := by rw [IntKind.wrap_i64]; omega
      have hzs : (z : Int) ≤ (s.size : Int) := by omega
      have hzN : z ≤ s.size := by omega
      clear hr3 HR2 hy1 hy2 hz
      go_wp2_with fail
      try rw [hwz]
      refine (below_any HS.out HR3.out.rd 4 (by omega) (by omega)).mono ?_
      rintro e w4 ⟨⟨q, hq1, hq2, rfl⟩, hr4⟩
      have HRN : Hid (Rd3 w0 a len cap g W w4) := HR3.out.trans hr4
      have HRD : Hid (Rd3 w0 a len cap g W w4.drew) := (HR3.out.trans hr4).drew
      clear hr4 HR3 hwz
      have z1 : (s.extract 0 x).size ≤ 600 := by rw [ByteArray.size_extract]; omega
      have z2 : (s.extract z s.size).size ≤ 600 := by rw [ByteArray.size_extract]; omega
      have z3 : (s.extract x s.size).size ≤ 600 := by rw [ByteArray.size_extract]; omega
      have zz1 : (s.extract 0 x).size + (s.extract z s.size).size ≤ 9223372036854775807 := by omega
      have zz2 : (s.extract z s.size).size + (s.extract 0 x).size ≤ 9223372036854775807 := by omega
      by_cases h0 : q = 0
      · subst h0
        go_wp2_with fail
        go_region
        have HRN := HRD
        obtain ⟨Q, hQ⟩ : ∃ Q, Q = s.extract 0 x ++ s.extract z s.size := ⟨_, rfl⟩
        have hQs : Q.size ≤ 1220 := by rw [hQ]; (repeat rw [ByteArray.size_append]); omega
        rw [← hQ]
        clear hQ
        by_cases hq : 600 < Q.size
        · have hqI : (600 : Int) < (Q.size : Int) := by omega
          have hqJ : (600 : Int) ≤ (Q.size : Int) := by omega
          have hqz : (Q.extract 0 600).size ≤ 600 := by rw [ByteArray.size_extract]; omega
          go_wp2_with fail
          go_roundw
          case rel => exact ⟨Q.extract 0 600, k - 1, hqz, rfl, by first | rfl | (show Value.int .i64 _ = Value.int .i64 _; congr 1; omega), by omega, HRN⟩
          case measure => first | (simp [lonIntOf]; omega) | (simp [lonIntOf]; done)
        · have hqI : ¬ (600 : Int) < (Q.size : Int) := by omega
          go_wp2_with fail
          go_roundw
          case rel => exact ⟨Q, k - 1, by omega, rfl, by first | rfl | (show Value.int .i64 _ = Value.int .i64 _; congr 1; omega), by omega, HRN⟩
          case measure => first | (simp [lonIntOf]; omega) | (simp [lonIntOf]; done)
      · have h0b : (q == 0) = false := beq_eq_false_iff_ne.2 h0
        by_cases h1 : q = 1
        · subst h1
          go_wp2_with fail
          go_region
          have HRN := HRD
          obtain ⟨Q, hQ⟩ : ∃ Q, Q = s.extract z s.size ++ s.extract 0 x := ⟨_, rfl⟩
          have hQs : Q.size ≤ 1220 := by rw [hQ]; (repeat rw [ByteArray.size_append]); omega
          rw [← hQ]
          clear hQ
          by_cases hq : 600 < Q.size
          · have hqI : (600 : Int) < (Q.size : Int) := by omega
            have hqJ : (600 : Int) ≤ (Q.size : Int) := by omega
            have hqz : (Q.extract 0 600).size ≤ 600 := by rw [ByteArray.size_extract]; omega
            go_wp2_with fail
            go_roundw
            case rel => exact ⟨Q.extract 0 600, k - 1, hqz, rfl, by first | rfl | (show Value.int .i64 _ = Value.int .i64 _; congr 1; omega), by omega, HRN⟩
            case measure => first | (simp [lonIntOf]; omega) | (simp [lonIntOf]; done)
          · have hqI : ¬ (600 : Int) < (Q.size : Int) := by omega
            go_wp2_with fail
            go_roundw
            case rel => exact ⟨Q, k - 1, by omega, rfl, by first | rfl | (show Value.int .i64 _ = Value.int .i64 _; congr 1; omega), by omega, HRN⟩
            case measure => first | (simp [lonIntOf]; omega) | (simp [lonIntOf]; done)
        · have h1b : (q == 1) = false := beq_eq_false_iff_ne.2 h1
          obtain ⟨S, hSS⟩ : ∃ S : World → Prop, S = fun _ => True := ⟨_, rfl⟩
          have hSall : ∀ w', S w' := fun w' => by rw [hSS]; trivial
          have hSd := hSall w4.drew
          obtain ⟨A, hA⟩ : ∃ A, A = s.extract 0 x := ⟨_, rfl⟩
          obtain ⟨C, hC⟩ : ∃ C, C = s.extract x s.size := ⟨_, rfl⟩
          have hAs : A.size ≤ 600 := by rw [hA]; exact z1
          have hCs : C.size ≤ 600 := by rw [hC]; exact z3
          clear hSS z1 z2 z3 zz1 zz2
          go_wp2_with fail
          refine wp_region_held (S := S) (by kernel_rfl) ?_
          change wpAnyH _ _ _ _ _ _ _ _ (World.drew _)
          refine wpAnyH_take (i := 0) (v := .string s) rfl (by kernel_rfl) (by kernel_rfl) (by kernel_rfl) (fun _ _ _ h => h) (Or.inl ⟨by rfl, by intro w' hS'; go_simp <;> (first | omega | (rw [IntKind.wrap_i64]; omega) | (rw [IntKind.wrap_u64]; omega) | (rw [IntKind.wrap_u32]; omega) | (rw [Int.tmod_eq_emod_of_nonneg (by omega)]) | rfl)⟩) hSd ?_
          (try simp only [List.getElem_toArray, List.getElem_cons_succ, List.getElem_cons_zero, Act.put, List.setIfInBounds_toArray, List.set_cons_zero, List.set_cons_succ])
          refine wpAnyH_take (i := 1) (v := .int .i64 (x : Int)) rfl (by kernel_rfl) (by kernel_rfl) (by kernel_rfl) (fun _ _ _ h => h) (Or.inl ⟨by rfl, by intro w' hS'; go_simp <;> (first | omega | (rw [IntKind.wrap_i64]; omega) | (rw [IntKind.wrap_u64]; omega) | (rw [IntKind.wrap_u32]; omega) | (rw [Int.tmod_eq_emod_of_nonneg (by omega)]) | rfl)⟩) hSd ?_
          (try simp only [List.getElem_toArray, List.getElem_cons_succ, List.getElem_cons_zero, Act.put, List.setIfInBounds_toArray, List.set_cons_zero, List.set_cons_succ])
          refine wpAnyH_take (i := 2) (v := .string A) rfl (by kernel_rfl) (by kernel_rfl) (by kernel_rfl) (fun _ _ _ h => h) (Or.inl ⟨by rfl, by intro w' hS'; go_simp <;> (first | omega | (rw [IntKind.wrap_i64]; omega) | (rw [IntKind.wrap_u64]; omega) | (rw [IntKind.wrap_u32]; omega) | (rw [Int.tmod_eq_emod_of_nonneg (by omega)]) | rfl)⟩) hSd ?_
          (try simp only [List.getElem_toArray, List.getElem_cons_succ, List.getElem_cons_zero, Act.put, List.setIfInBounds_toArray, List.set_cons_zero, List.set_cons_succ])
          refine wpAnyH_take (i := 3) (v := .pointer (some ⟨g, 0, none⟩)) rfl (by kernel_rfl) (by kernel_rfl) (by kernel_rfl) (fun _ _ _ h => h) (Or.inl ⟨by rfl, by intro w' hS'; go_simp <;> (first | omega | (rw [IntKind.wrap_i64]; omega) | (rw [IntKind.wrap_u64]; omega) | (rw [IntKind.wrap_u32]; omega) | (rw [Int.tmod_eq_emod_of_nonneg (by omega)]) | rfl)⟩) hSd ?_
          (try simp only [List.getElem_toArray, List.getElem_cons_succ, List.getElem_cons_zero, Act.put, List.setIfInBounds_toArray, List.set_cons_zero, List.set_cons_succ])
          refine wpAnyH_take (i := 6) (v := .string s) rfl (by kernel_rfl) (by kernel_rfl) (by kernel_rfl) (fun _ _ _ h => h) (Or.inl ⟨by rfl, by intro w' hS'; go_simp <;> (first | omega | (rw [IntKind.wrap_i64]; omega) | (rw [IntKind.wrap_u64]; omega) | (rw [IntKind.wrap_u32]; omega) | (rw [Int.tmod_eq_emod_of_nonneg (by omega)]) | rfl)⟩) hSd ?_
          (try simp only [List.getElem_toArray, List.getElem_cons_succ, List.getElem_cons_zero, Act.put, List.setIfInBounds_toArray, List.set_cons_zero, List.set_cons_succ])
          refine wpAnyH_take (i := 7) (v := .int .i64 (x : Int)) rfl (by kernel_rfl) (by kernel_rfl) (by kernel_rfl) (fun _ _ _ h => h) (Or.inl ⟨by rfl, by intro w' hS'; go_simp <;> (first | omega | (rw [IntKind.wrap_i64]; omega) | (rw [IntKind.wrap_u64]; omega) | (rw [IntKind.wrap_u32]; omega) | (rw [Int.tmod_eq_emod_of_nonneg (by omega)]) | rfl)⟩) hSd ?_
          (try simp only [List.getElem_toArray, List.getElem_cons_succ, List.getElem_cons_zero, Act.put, List.setIfInBounds_toArray, List.set_cons_zero, List.set_cons_succ])
          refine wpAnyH_take (i := 8) (v := .string C) rfl (by kernel_rfl) (by kernel_rfl) (by kernel_rfl) (fun _ _ _ h => h) (Or.inl ⟨by rfl, by intro w' hS'; go_simp <;> (first | omega | (rw [IntKind.wrap_i64]; omega) | (rw [IntKind.wrap_u64]; omega) | (rw [IntKind.wrap_u32]; omega) | (rw [Int.tmod_eq_emod_of_nonneg (by omega)]) | rfl)⟩) hSd ?_
          (try simp only [List.getElem_toArray, List.getElem_cons_succ, List.getElem_cons_zero, Act.put, List.setIfInBounds_toArray, List.set_cons_zero, List.set_cons_succ])
          refine held_stepS (i := 4) (by kernel_rfl) rfl (by rfl) ?_
          go_simp
          refine (text_any HS.out HRD.out.rd).mono ?_
          rintro e w5 ⟨⟨T, hT, rfl⟩, hr5⟩
          have hS5 := hSall w5
          have HRN : Hid (Rd3 w0 a len cap g W w5) := HRD.out.trans hr5
          have hat : (A ++ T).size ≤ 620 := by rw [ByteArray.size_append]; omega
          have y1 : A.size + T.size ≤ 9223372036854775807 := by omega
          have y2 : (A ++ T).size + C.size ≤ 9223372036854775807 := by omega
          have y3 : A.size + T.size + C.size ≤ 9223372036854775807 := by omega
          clear hr5
          refine ⟨hS5, ?_⟩
          (try simp only [List.getElem_toArray, List.getElem_cons_succ, List.getElem_cons_zero, Act.put, List.setIfInBounds_toArray, List.set_cons_zero, List.set_cons_succ])
          refine wpAnyH_take (i := 5) (v := .string (A ++ T)) rfl (by kernel_rfl) (by kernel_rfl) (by kernel_rfl) (fun _ _ _ h => h) (Or.inl ⟨by rfl, by intro w' hS'; go_simp <;> (first | omega | (rw [IntKind.wrap_i64]; omega) | (rw [IntKind.wrap_u64]; omega) | (rw [IntKind.wrap_u32]; omega) | (rw [Int.tmod_eq_emod_of_nonneg (by omega)]) | rfl)⟩) hS5 ?_
          (try simp only [List.getElem_toArray, List.getElem_cons_succ, List.getElem_cons_zero, Act.put, List.setIfInBounds_toArray, List.set_cons_zero, List.set_cons_succ])
          refine wpAnyH_take (i := 9) (v := .string ((A ++ T) ++ C)) rfl (by kernel_rfl) (by kernel_rfl) (by kernel_rfl) (fun _ _ _ h => h) (Or.inl ⟨by rfl, by intro w' hS'; go_simp <;> (first | omega | (rw [IntKind.wrap_i64]; omega) | (rw [IntKind.wrap_u64]; omega) | (rw [IntKind.wrap_u32]; omega) | (rw [Int.tmod_eq_emod_of_nonneg (by omega)]) | rfl)⟩) hS5 ?_
          (try simp only [List.getElem_toArray, List.getElem_cons_succ, List.getElem_cons_zero, Act.put, List.setIfInBounds_toArray, List.set_cons_zero, List.set_cons_succ])
          refine wpAnyH_take (i := 10) (v := .string ((A ++ T) ++ C)) rfl (by kernel_rfl) (by kernel_rfl) (by kernel_rfl) (fun _ _ _ h => h) (Or.inl ⟨by rfl, by intro w' hS'; go_simp <;> (first | omega | (rw [IntKind.wrap_i64]; omega) | (rw [IntKind.wrap_u64]; omega) | (rw [IntKind.wrap_u32]; omega) | (rw [Int.tmod_eq_emod_of_nonneg (by omega)]) | rfl)⟩) hS5 ?_
          (try simp only [List.getElem_toArray, List.getElem_cons_succ, List.getElem_cons_zero, Act.put, List.setIfInBounds_toArray, List.set_cons_zero, List.set_cons_succ])
          refine wpAnyH_done (by kernel_rfl) ?_ _
          obtain ⟨Q, hQ⟩ : ∃ Q, Q = (A ++ T) ++ C := ⟨_, rfl⟩
          have hQs : Q.size ≤ 1220 := by rw [hQ]; (repeat rw [ByteArray.size_append]); omega
          rw [← hQ]
          clear hQ
          by_cases hq : 600 < Q.size
          · have hqI : (600 : Int) < (Q.size : Int) := by omega
            have hqJ : (600 : Int) ≤ (Q.size : Int) := by omega
            have hqz : (Q.extract 0 600).size ≤ 600 := by rw [ByteArray.size_extract]; omega
            go_wp2_with fail
            go_roundw
            case rel => exact ⟨Q.extract 0 600, k - 1, hqz, rfl, by first | rfl | (show Value.int .i64 _ = Value.int .i64 _; congr 1; omega), by omega, HRN⟩
            case measure => first | (simp [lonIntOf]; omega) | (simp [lonIntOf]; done)
          · have hqI : ¬ (600 : Int) < (Q.size : Int) := by omega
            go_wp2_with fail
            go_roundw
            case rel => exact ⟨Q, k - 1, by omega, rfl, by first | rfl | (show Value.int .i64 _ = Value.int .i64 _; congr 1; omega), by omega, HRN⟩
            case measure => first | (simp [lonIntOf]; omega) | (simp [lonIntOf]; done)
    · obtain rfl : k = 0 := by omega
      go_wp2_with fail
      go_ret
      exact ⟨⟨s, hs, rfl⟩, HR.out⟩
end Go.Proofs.Ytpeddaljgmkomaa

/-!   The reader of drawn bytes: what 'near' and 'off' answer where the least may be one less than nought. -/
namespace Go.Proofs.Ytpeddaljgmkomaa
open Go.RowKit
set_option maxRecDepth 100000 in
set_option maxHeartbeats 1000000 in
theorem near_anyN {w0 : World} {a : Option Addr} {len cap g : Nat} {W : World} (hS : Src w0 a len) (h : RD w0 a len cap g W) (lo hi : Int) (h1 : -1 ≤ lo) (h2 : lo ≤ hi) (h3 : hi ≤ 5000) :
    Calls Try.prog 91 #[.pointer (some ⟨g, 0, none⟩), .int .i64 lo, .int .i64 hi] W fun e w' => (∃ x : Int, -1 ≤ x ∧ x ≤ 10000 ∧ e = .returned (.int .i64 x)) ∧ Rd3 w0 a len cap g W w' := by
  have hlt : ¬ hi < lo := by omega
  go_enter Try.func91, Try.ntmps91
  go_wp2_with fail
  refine (below_any hS h 8 (by omega) (by omega)).mono ?_
  rintro e w1 ⟨⟨x, hx1, hx2, rfl⟩, hr⟩
  clear h
  by_cases h0 : x = 0
  · subst h0
    go_wp2_with fail
    go_ret
    exact ⟨⟨lo, h1, by omega, rfl⟩, hr⟩
  · by_cases h10 : x = 1
    · subst h10
      go_wp2_with fail
      go_ret
      exact ⟨⟨hi, by omega, by omega, rfl⟩, hr⟩
    · have hne0 : (x == 0) = false := beq_eq_false_iff_ne.2 h0
      have hne1 : (x == 1) = false := beq_eq_false_iff_ne.2 h10
      go_wp2_with fail
      refine (rword_any hS hr.rd).mono ?_
      rintro e w2 ⟨⟨y, hy1, hy2, rfl⟩, hr2⟩
      have hm1 := Int.emod_nonneg (y / 2) (by omega : hi - lo + 1 ≠ 0)
      have hm2 := Int.emod_lt_of_pos (y / 2) (by omega : 0 < hi - lo + 1)
      have hnz : ¬ hi - lo + 1 = 0 := by omega
      go_wp2_with fail
      go_ret
      exact ⟨⟨lo + y / 2 % (hi - lo + 1), by omega, by omega, rfl⟩, hr.trans hr2⟩
theorem fourN (lo hi : Int) (n : Nat) (h : n < 4) (h1 : -1 ≤ lo) (h2 : lo ≤ hi) (h3 : hi ≤ 5000) : ∃ v : Int, -9223372036854775808 ≤ v ∧ v ≤ 9223372036854775807 ∧
    (#[Value.int .i64 (lo - 1), .int .i64 (hi + 1), .int .i64 (-9223372036854775808), .int .i64 9223372036854775807] : Array Value)[n]? = some (.int .i64 v) := by
  match n, h with
  | 0, _ => exact ⟨_, by omega, by omega, rfl⟩
  | 1, _ => exact ⟨_, by omega, by omega, rfl⟩
  | 2, _ => exact ⟨_, by decide, by decide, rfl⟩
  | 3, _ => exact ⟨_, by decide, by decide, rfl⟩

set_option maxRecDepth 100000 in
set_option maxHeartbeats 1000000 in
theorem off_anyN {w0 : World} {a : Option Addr} {len cap g : Nat} {W : World} (hS : Src w0 a len) (h : RD w0 a len cap g W) (lo hi : Int) (h1 : -1 ≤ lo) (h2 : lo ≤ hi) (h3 : hi ≤ 5000) :
    Calls Try.prog 63 #[.pointer (some ⟨g, 0, none⟩), .int .i64 lo, .int .i64 hi] W fun e w' => (∃ x : Int, -9223372036854775808 ≤ x ∧ x ≤ 9223372036854775807 ∧ e = .returned (.int .i64 x)) ∧ Rd3 w0 a len cap g W w' := by
  go_enter Try.func63, Try.ntmps63
  go_wp2_with fail
  refine (once_any hS h 24 (by omega) (by omega)).mono ?_
  rintro e w1 ⟨⟨b, rfl⟩, hr⟩
  clear h
  cases b with
  | true =>
    have hne : w1.heap.size ≠ g := by have := hr.rd.lt; omega
    go_wp2_with fail
    refine (below_any hS (hr.rd.alloc _) 4 (by omega) (by omega)).mono ?_
    rintro e w2 ⟨⟨x, hx1, hx2, rfl⟩, hr2⟩
    obtain ⟨n, rfl⟩ := Int.eq_ofNat_of_zero_le hx1
    obtain ⟨v, hv1, hv2, hv⟩ := fourN lo hi n (by omega) h1 h2 h3
    have hc := six hr2.grown hne n _ hv
    have hr3 : Rd3 w0 a len cap g W w2 := (hr.alloc _).trans hr2
    clear hr hr2
    go_wp2_with fail
    go_ret
    exact ⟨⟨v, hv1, hv2, rfl⟩, hr3⟩
  | false =>
    go_wp2_with fail
    refine (near_anyN hS hr.rd lo hi h1 h2 h3).mono ?_
    rintro e w2 ⟨⟨x, hx1, hx2, rfl⟩, hr2⟩
    go_wp2_with fail
    go_ret
    exact ⟨⟨x, by omega, by omega, rfl⟩, hr.trans hr2⟩
end Go.Proofs.Ytpeddaljgmkomaa
