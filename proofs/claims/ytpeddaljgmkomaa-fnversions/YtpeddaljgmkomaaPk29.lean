/-
  Several texts of this seat as one: CnM, CnD, CnV.
-/
import Derived.Test.YtpeddaljgmkomaaPk24
import Derived.Test.YtpeddaljgmkomaaPk28
import Derived.WalkArith
import Derived.Test.YtpeddaljgmkomaaPk03

/-!   A chain that is drawn: what is kept of it, and how it grows. -/
namespace Go.Proofs.Ytpeddaljgmkomaa
open Go.RowKit
set_option linter.unusedVariables false
set_option linter.unusedSimpArgs false
theorem Nst.appK {w0 w : World} {lo : Nat} {us us' : List Value} {ds ds' : List Dd} (h : Nst w0 lo us ds) (hk : ∀ b, lo ≤ b → b < w0.heap.size → w.heap[b]? = w0.heap[b]?) (k : Nst w w0.heap.size us' ds') (hl : lo ≤ w0.heap.size) : Nst w lo (us ++ us') (ds ++ ds') := by
  obtain ⟨bs, h1, h2, h3⟩ := h
  obtain ⟨cs, k1, k2, k3⟩ := k
  refine ⟨bs ++ cs, (h1.keep fun b hb => hk b (h3 b hb) (h1.lt b hb)).app k1, List.nodup_append.2 ⟨h2, k2, fun a ha b hb' e => ?_⟩, fun b hb' => ?_⟩
  · have := h1.lt a ha
    have := k3 b hb'
    omega
  · rcases List.mem_append.1 hb' with h | h
    · exact h3 b h
    · exact Nat.le_trans hl (k3 b h)
theorem Gl.growK {w W w' : World} {lo e k n m : Nat} {T : Nat → Prop} {v v' : Value} {us us' : List Value} {ds ds' : List Dd} (h : Gl w lo e k T v n us ds) (hk : ∀ b, lo ≤ b → b < w.heap.size → W.heap[b]? = w.heap[b]?) (hlo : lo ≤ w.heap.size) (new : Nst W w.heap.size us' ds') (ht : ∀ d ∈ ds', Tys T d)
    (row : w'.ownsRow lo e k v' (n + m) (us ++ us')) (hg : W.grownBy w' v.ownBlock) : Gl w' lo e k T v' (n + m) (us ++ us') (ds ++ ds') := by
  have hN := h.nst.appK hk new hlo
  have hall : ∀ d ∈ ds ++ ds', Tys T d := fun d hd => by
    rcases List.mem_append.1 hd with hd | hd
    · exact h.ty d hd
    · exact ht d hd
  obtain ⟨bs, h1, h2, h3⟩ := hN
  have hty := h1.ty hall
  have hap := (h.keep hk).apart hty
  exact ⟨row, ⟨bs, h1.keep fun b hb' => hg.block b (h1.lt b hb') (fun c => hap b c.symm hb'), h2, h3⟩, hall, h.ne⟩
theorem wpList_append_lkK {P : Program} {w0 W : World} {ops : Array Oper} {rest : List Oper} {o : Oper} {a : Act} {Q : Exit → Act → World → Prop} (hgd : o.guard = none) (s x : Operand) (t : TypeId)
    (ho : o.op = .call { callee := .builtin .append, args := #[s, x], argTypes := #[t, t] })
    (lo : Nat) (i : TypeInfo) (z : Value) (ht : P.underlying t = some (.slice 54)) (hi : P.info? 54 = some i) (hz : i.zero = some z)
    (hsize : i.size = 3) (hby : i.bytes = 48) (hzs : z.cells.size = 3)
    (v : Value) (n : Nat) (us : List Value) (ds : List Dd) (hs : a.eval s = v) (h : Gl w0 lo 54 3 isPc v n us ds) (hn : n ≤ 1000) (hlo : lo ≤ w0.heap.size) (hsz : w0.heap.size ≤ W.heap.size) (hk : ∀ b, lo ≤ b → b < w0.heap.size → W.heap[b]? = w0.heap[b]?)
    (b : Int) (d : ByteArray) (p : List PcI) (sa : Option Addr) (sn sc : Nat) (new : Own W w0.heap.size (pcsD p) (.slice sa sn sc)) (hx : a.eval x = .slice (some ⟨W.heap.size, 0, none⟩) 1 1)
    (K : ∀ v' us' w', Gl w' lo 54 3 isPc v' (n + 1) us' (ds ++ lkDs ⟨b, d, p⟩) → (W.alloc (.cells #[.int .i64 b, .string d, .slice sa sn sc] 54)).grownBy w' v.ownBlock → wpList P ops Q rest (a.put o.dst v') w') : wpList P ops Q (o :: rest) a (W.alloc (.cells #[.int .i64 b, .string d, .slice sa sn sc] 54)) := by
  have hA : Below W.heap.size W (W.alloc (.cells #[.int .i64 b, .string d, .slice sa sn sc] 54)) := (Below.refl _ _).alloc (Nat.le_refl _) _
  have hk2 : ∀ b', lo ≤ b' → b' < w0.heap.size → (W.alloc (.cells #[.int .i64 b, .string d, .slice sa sn sc] 54)).heap[b']? = w0.heap[b']? := fun b' h1 h2 => (hA.block b' (Nat.lt_of_lt_of_le h2 hsz)).trans (hk b' h1 h2)
  have hrow := (h.keep hk2).row
  have hlo2 : lo ≤ (W.alloc (.cells #[.int .i64 b, .string d, .slice sa sn sc] 54)).heap.size := Nat.le_trans (Nat.le_trans hlo hsz) hA.size
  refine wpList_append_own _ hgd s x t ho lo 54 i z 3 48 ht hi hz hsize hby hzs (by decide) v n us hs hrow ⟨W.heap.size, 0, none⟩ 1 1 [.int .i64 b, .string d, .slice sa sn sc] hx rfl (cell_three_at rfl) (three_lk _ _ _ _ _) (by unfold maxLen; omega) (by omega) hlo2 ?_
  intro v' w' ho' hg _
  exact K v' _ w' (h.growK hk2 hlo ((lk_new new).under hA) (lkDs_ty _) ho' hg) hg
theorem pcF_leC (L : List PcI) (hL : L.length ≤ 7) (h : ∀ p ∈ L, p.d.size ≤ 5) : PcLe (pcF L) L.length := by
  refine ⟨by omega, fun i hi => ?_⟩
  have e : pcF L i = L[i] := by unfold pcF; simp [hi]
  rw [e]
  have := h _ (List.getElem_mem hi)
  omega
theorem LkLe.snoc {L : List LkI} {x : LkI} (h : LkLe L) (hn : L.length ≤ 1000) (hd : x.d.size ≤ 1048576) (hb : (Lit.int .i64 x.b).wf = true) (hp : PcLe (pcF x.p) x.p.length) : LkLe (L ++ [x]) := by
  refine ⟨by rw [List.length_append]; show L.length + 1 ≤ _; omega, fun y hy => ?_⟩
  rcases List.mem_append.1 hy with h1 | h1
  · exact h.one y h1
  · obtain rfl : y = x := by simpa using h1
    exact ⟨hd, hb, hp⟩
theorem pcLe_nil : PcLe (pcF []) 0 := ⟨by omega, fun i hi => absurd hi (Nat.not_lt_zero i)⟩
theorem avR_le {L M : List LkI} {s : ByteArray} {k : Int} (hl : LkLe L) (h : avR L s k = some M) : LkLe M ∧ M.length = L.length + 1 := by
  by_cases hc : L.length < 30 ∧ s.size ≤ 4000 ∧ -1 ≤ k ∧ k ≤ (L.length : Int) - 1
  · cases hA : vAll L with
    | none => rw [avR_none hA] at h; cases h
    | some V =>
      rw [avR_yes hA hc] at h
      injection h with h
      subst h
      refine ⟨?_, by simp⟩
      have hw : ∀ (d : ByteArray), d.size ≤ 4000 → LkLe (L ++ [⟨-1, d, []⟩]) := fun d hd => hl.snoc (by omega) (by show d.size ≤ _; omega) (Go.WalkArith.wf_i64 (by show -9223372036854775808 ≤ (-1 : Int) ∧ (-1 : Int) ≤ _; omega)) pcLe_nil
      unfold avL
      split
      · rename_i o ho
        split
        · split
          · rename_i P hP
            exact hl.snoc (by omega) (show (⟨#[]⟩ : ByteArray).size ≤ 1048576 by decide) (Go.WalkArith.wf_i64 (by show -9223372036854775808 ≤ k ∧ k ≤ _; omega)) (pcLe_of (doD_good (shR_doD hP).1).2.1)
          · exact hw s hc.2.1
        · exact hw s hc.2.1
      · exact hw s hc.2.1
  · rw [avR_no hc] at h; cases h
/-- a drawn chain, and the reader -/
structure DC (w0 : World) (a : Option Addr) (len cap g : Nat) (W : World) (v : Value) (L : List LkI) : Prop where
  rd : RD w0 a len cap g W
  own : ∃ us, Gl W (g + 1) 54 3 isPc v L.length us (L.flatMap lkDs)
  le : LkLe L
theorem DC.rd3 {w0 : World} {a : Option Addr} {len cap g : Nat} {W W' : World} {v : Value} {L : List LkI} (h : DC w0 a len cap g W v L) (hr : Rd3 w0 a len cap g W W') : DC w0 a len cap g W' v L := by
  obtain ⟨us, hg⟩ := h.own
  exact ⟨hr.rd, ⟨us, hg.keep fun b h1 h2 => hr.grown.block b h2 (fun c => by injection c with c; omega)⟩, h.le⟩
theorem DC.under {w0 : World} {a : Option Addr} {len cap g : Nat} {W W' : World} {v : Value} {L : List LkI} (h : DC w0 a len cap g W v L) (hb : Below W.heap.size W W') : DC w0 a len cap g W' v L := by
  obtain ⟨us, hg⟩ := h.own
  exact ⟨h.rd.past hb, ⟨us, hg.call hb⟩, h.le⟩
theorem DC.form {w0 : World} {a : Option Addr} {len cap g : Nat} {W : World} {v : Value} {L : List LkI} (h : DC w0 a len cap g W v L) : ∃ b c, v = .slice b L.length c := by
  obtain ⟨us, hg⟩ := h.own
  obtain ⟨_, ⟨h1, h2⟩ | ⟨g1, cap, cur, h1, _⟩⟩ := hg.row
  · exact ⟨none, 0, by rw [h1, h2]⟩
  · exact ⟨_, _, h1⟩
theorem DC.hd {w0 : World} {a : Option Addr} {len cap g : Nat} {W : World} {v : Value} {L : List LkI} (h : DC w0 a len cap g W v L) : ∃ bs, Hd W (lksD L) v bs := by
  obtain ⟨us, hg⟩ := h.own
  obtain ⟨bs, h1, _⟩ := hg.own (by omega) (fm_len lkDs_len L)
  exact ⟨bs, h1⟩
/-- what AddVersion tells of a drawn chain -/
def DcPost (w0 : World) (a : Option Addr) (len cap g : Nat) (v : Value) (L : List LkI) (e : Ending) (w' : World) : Prop :=
  (e = .returned (.tuple #[.slice none 0 0, .bool false]) ∧ DC w0 a len cap g w' v L) ∨ ∃ v' M, e = .returned (.tuple #[v', .bool true]) ∧ M.length = L.length + 1 ∧ DC w0 a len cap g w' v' M
theorem dc_add {w0 : World} {a : Option Addr} {len cap g : Nat} {W : World} {v : Value} {L : List LkI} (h : DC w0 a len cap g W v L) (s : ByteArray) (k : Int) (hs : s.size ≤ 1048576) :
    Calls Try.prog 22 #[v, .string s, .int .i64 k] W fun e w' => DcPost w0 a len cap g v L e w' := by
  obtain ⟨bs, hd⟩ := h.hd
  refine (saddG_any v L bs s k W hs h.le hd).mono fun e w' hp => ?_
  obtain ⟨h1, hb⟩ := hp
  cases hR : avR L s k with
  | none =>
    rw [hR] at h1
    exact Or.inl ⟨h1, h.under hb⟩
  | some M =>
    rw [hR] at h1
    obtain ⟨v', us, h1, hg⟩ := h1
    obtain ⟨h2, h3⟩ := avR_le h.le hR
    exact Or.inr ⟨v', M, h1, h3, h.rd.past hb, ⟨us, hg.base h.rd.lt⟩, h2⟩
end Go.Proofs.Ytpeddaljgmkomaa

/-!   A chain that is drawn. -/
namespace Go.Proofs.Ytpeddaljgmkomaa
open Go.RowKit
set_option linter.unusedVariables false
set_option linter.unusedSimpArgs false
set_option maxRecDepth 100000 in
set_option maxHeartbeats 2000000 in
theorem chain_drawn {w0 : World} {a : Option Addr} {len cap g : Nat} {W : World} (hS : Src w0 a len) (h : RD w0 a len cap g W) :
    Calls Try.prog 59 #[.pointer (some ⟨g, 0, none⟩)] W fun e w' => ∃ (v : Value) (L : List LkI), L.length ≤ 9 ∧ e = .returned v ∧ DC w0 a len cap g w' v L := by
  have HS : Hid (Src w0 a len) := hS
  obtain ⟨i0, hi0, hz0, hz1, hz2⟩ := info_parts Try.infLk
  have HADD : Hid (∀ v (L : List LkI) W (s : ByteArray) (k : Int), DC w0 a len cap g W v L → s.size ≤ 1048576 → Calls Try.prog 22 #[v, .string s, .int .i64 k] W fun e w' => DcPost w0 a len cap g v L e w') := fun v L W s k h hs => dc_add h s k hs
  have HD0 : Hid (DC w0 a len cap g (W.alloc (.cells #[] 54)) (.slice (some ⟨W.heap.size, 0, none⟩) 0 0) []) :=
    ⟨h.alloc _, ⟨[], World.ownsRow_made W #[] 0 h.lt (by unfold maxLen; omega) rfl, Nst.nil _ _, fun d hd => (by cases hd), by unfold isPc; decide⟩, ⟨by simp, fun x hx => by cases hx⟩⟩
  go_enter Try.func59, Try.ntmps59
  go_wp2_with fail
  refine (data_any hS HD0.out.rd 6 (by omega) (by omega)).mono ?_
  rintro e w1 ⟨⟨s0, hs0, rfl⟩, hr1⟩
  have HD1 := dhid (HD0.out.rd3 hr1)
  clear hr1 HD0 h
  go_wp2_with fail
  refine (below_any hS HD1.out.rd 8 (by omega) (by omega)).mono ?_
  rintro e w2 ⟨⟨x, hx1, hx2, rfl⟩, hr2⟩
  have HD2 := dhid (HD1.out.rd3 hr2)
  clear hr2 HD1 hS
  go_wp2_with fail
  go_loopw [3, 4, 5] (fun ov sv t wr => ∃ (L : List LkI) (s : ByteArray) (m : Nat), L.length + m ≤ 7 ∧ s.size ≤ 600 ∧ sv = .string s ∧ t = .int .i64 (m : Int) ∧ Hid (DC w0 a len cap g wr ov L)) (fun _ _ t _ => (intN t).toNat)
  case atStart => exact ⟨[], s0, x.toNat, by simp; omega, hs0, rfl, by rw [Int.toNat_of_nonneg hx1], HD2⟩
  case round =>
    clear HD2 hx1 hx2
    obtain ⟨L, s, m, hm, hs, rfl, rfl, HD⟩ := hrel
    obtain ⟨oa, oc, hov⟩ := HD.out.form
    subst hov
    obtain ⟨n, hn⟩ : ∃ n, n = L.length := ⟨_, rfl⟩
    have HDN := HD.out
    rw [← hn] at hm HDN ⊢
    have HN := dhid hn
    have HD := dhid HDN
    clear hn HDN
    by_cases hp : 0 < m
    · have hpI : (0 : Int) < (m : Int) := by omega
      have hwm : IntKind.i64.wrap ((m : Int) - 1) = ((m - 1 : Nat) : Int) := by rw [IntKind.wrap_i64]; omega
      go_wp2_with fail
      refine (once_any HS.out HD.out.rd 4 (by omega) (by omega)).mono ?_
      rintro e w3 ⟨⟨x, rfl⟩, hr3⟩
      have HD3 := dhid (HD.out.rd3 hr3)
      clear hr3
      cases x with
      | false =>
        go_wp2_with fail
        refine (HADD.out _ _ _ _ _ HD3.out (by omega)).mono ?_
        rintro e w5 (⟨rfl, hd5⟩ | ⟨v5, M, rfl, hM, hd5⟩)
        · have HD5 := dhid hd5
          clear hd5 HD3
          go_wp2_with fail
          refine (other_kept HS.out HD5.out.rd s hs).mono ?_
          rintro e w6 ⟨⟨s', hs', rfl⟩, hr6⟩
          have HD6 := dhid (HD5.out.rd3 hr6)
          clear hr6 HD5
          go_wp2_with fail
          go_roundw
          case rel => exact ⟨L, s', m - 1, by rw [← HN.out]; omega, hs', rfl, rfl, HD6⟩
          case measure => simp [intN]; omega
        · obtain ⟨a5, c5, rfl⟩ := hd5.form
          rw [hM, ← HN.out] at hd5
          have HM : Hid (M.length = n + 1) := by show M.length = n + 1; rw [hM, ← HN.out]
          have HD5 := dhid hd5
          clear hd5 HD3
          rw [hM, ← HN.out]
          clear hM
          go_wp2_with fail
          refine (other_kept HS.out HD5.out.rd s hs).mono ?_
          rintro e w6 ⟨⟨s', hs', rfl⟩, hr6⟩
          have HD6 := dhid (HD5.out.rd3 hr6)
          clear hr6 HD5
          go_wp2_with fail
          go_roundw
          case rel => exact ⟨M, s', m - 1, by rw [HM.out]; omega, hs', rfl, rfl, HD6⟩
          case measure => simp [intN]; omega
      | true =>
        go_wp2_with fail
        refine (below_any HS.out HD3.out.rd ((n : Int) + 1) (by omega) (by omega)).mono ?_
        rintro e w4 ⟨⟨y, hy1, hy2, rfl⟩, hr4⟩
        have HD4 := dhid (HD3.out.rd3 hr4)
        clear hr4 HD3
        go_wp2_with fail
        refine (HADD.out _ _ _ _ _ HD4.out (by omega)).mono ?_
        rintro e w5 (⟨rfl, hd5⟩ | ⟨v5, M, rfl, hM, hd5⟩)
        · have HD5 := dhid hd5
          clear hd5 HD4
          go_wp2_with fail
          refine (other_kept HS.out HD5.out.rd s hs).mono ?_
          rintro e w6 ⟨⟨s', hs', rfl⟩, hr6⟩
          have HD6 := dhid (HD5.out.rd3 hr6)
          clear hr6 HD5
          go_wp2_with fail
          go_roundw
          case rel => exact ⟨L, s', m - 1, by rw [← HN.out]; omega, hs', rfl, rfl, HD6⟩
          case measure => simp [intN]; omega
        · obtain ⟨a5, c5, rfl⟩ := hd5.form
          rw [hM, ← HN.out] at hd5
          have HM : Hid (M.length = n + 1) := by show M.length = n + 1; rw [hM, ← HN.out]
          have HD5 := dhid hd5
          clear hd5 HD4
          rw [hM, ← HN.out]
          clear hM
          go_wp2_with fail
          refine (other_kept HS.out HD5.out.rd s hs).mono ?_
          rintro e w6 ⟨⟨s', hs', rfl⟩, hr6⟩
          have HD6 := dhid (HD5.out.rd3 hr6)
          clear hr6 HD5
          go_wp2_with fail
          go_roundw
          case rel => exact ⟨M, s', m - 1, by rw [HM.out]; omega, hs', rfl, rfl, HD6⟩
          case measure => simp [intN]; omega
    · obtain rfl : m = 0 := by omega
      go_wp2_with fail
      refine (below_any HS.out HD.out.rd 24 (by omega) (by omega)).mono ?_
      rintro e w3 ⟨⟨x, hx1, hx2, rfl⟩, hr3⟩
      have HD3 := dhid (HD.out.rd3 hr3)
      clear hr3
      by_cases h0 : x = 0
      · subst h0
        go_wp2_with fail
        refine (off_anyN HS.out HD3.out.rd (-1) (n : Int) (by omega) (by omega) (by omega)).mono ?_
        rintro e w5 ⟨⟨y, hy1, hy2, rfl⟩, hr5⟩
        have HD5 := dhid (HD3.out.rd3 hr5)
        clear hr5 HD3
        go_wp2_with fail
        refine (pieces_kept HS.out HD5.out.rd 9 (by omega) (by omega)).mono ?_
        rintro e w4 ⟨pv, P, hP, rfl, hdw⟩
        have HDW := dhid hdw
        have HOW := dhid (pcs_own hdw.own)
        have HLE : Hid (LkLe (L ++ [⟨y, ⟨#[]⟩, P⟩])) := HD5.out.le.snoc (by rw [← HN.out]; omega) (show (⟨#[]⟩ : ByteArray).size ≤ 1048576 by decide) (Go.WalkArith.wf_i64 (by show -9223372036854775808 ≤ (y : Int) ∧ (y : Int) ≤ 9223372036854775807; omega)) (pcF_leC P hP hdw.sz)
        obtain ⟨us, hgl⟩ := HD5.out.own
        rw [← HN.out] at hgl
        have HGL := dhid hgl
        have HSZ : Hid (g + 1 ≤ w5.heap.size) := HD5.out.rd.lt
        have HKP : Hid (∀ b, g + 1 ≤ b → b < w5.heap.size → w4.heap[b]? = w5.heap[b]?) := fun b h1 h2 => hdw.r3.grown.block b h2 (fun c => by injection c with c; omega)
        have HAP : Hid (Value.ownBlock (.slice oa n oc) ≠ some g) := fun c => by have := (hgl.row.lt g c).1; omega
        have HLO : Hid (∀ k, Value.ownBlock (.slice oa n oc) = some k → w0.heap.size ≤ k) := fun k c => by have := (hgl.row.lt k c).1; have := HD5.out.rd.gnew; omega
        obtain ⟨pa, pn, pc, rfl⟩ : ∃ pa pn pc, pv = .slice pa pn pc := by obtain ⟨pa, pc, h⟩ := own3_slice hdw.own; exact ⟨_, _, _, h⟩
        clear hdw hgl hP HD5
        go_wp2_with (at_builtin; (refine wpList_append_lkK rfl _ _ 25 rfl (g + 1) i0 _ Try.underlying25 hi0 hz0 hz1 hz2 rfl _ n us (L.flatMap lkDs) rfl HGL.out (by omega) HSZ.out HDW.out.r3.grown.size HKP.out y ⟨#[]⟩ P _ _ _ HOW.out rfl ?_; intro v' us' w7 hgl7 hgr7; refine hold_goalF ?_))
        have HO7 : Hid (DC w0 a len cap g w7 v' (L ++ [⟨y, ⟨#[]⟩, P⟩])) := by
          have h := gl_lkG hgl7 HN.out
          exact ⟨(HDW.out.r3.rd.alloc _).grownP hgr7 HAP.out HLO.out, ⟨_, h⟩, HLE.out⟩
        clear hgl7 hgr7
        unfold Hid
        go_wp2_with fail
        go_ret
        exact ⟨v', L ++ [⟨y, ⟨#[]⟩, P⟩], by rw [List.length_append, ← HN.out]; show n + 1 ≤ 9; omega, rfl, HO7.out⟩
      · have h0b : (x == 0) = false := beq_eq_false_iff_ne.2 h0
        by_cases h1 : x = 1
        · subst h1
          go_wp2_with fail
          refine (pieces_kept HS.out HD3.out.rd 9 (by omega) (by omega)).mono ?_
          rintro e w4 ⟨pv, P, hP, rfl, hdw⟩
          have HDW := dhid hdw
          have HOW := dhid (pcs_own hdw.own)
          have HLE : Hid (LkLe (L ++ [⟨-1, ⟨#[120]⟩, P⟩])) := HD3.out.le.snoc (by rw [← HN.out]; omega) (show (⟨#[120]⟩ : ByteArray).size ≤ 1048576 by decide) (Go.WalkArith.wf_i64 (by show -9223372036854775808 ≤ (-1 : Int) ∧ (-1 : Int) ≤ 9223372036854775807; omega)) (pcF_leC P hP hdw.sz)
          obtain ⟨us, hgl⟩ := HD3.out.own
          rw [← HN.out] at hgl
          have HGL := dhid hgl
          have HSZ : Hid (g + 1 ≤ w3.heap.size) := HD3.out.rd.lt
          have HKP : Hid (∀ b, g + 1 ≤ b → b < w3.heap.size → w4.heap[b]? = w3.heap[b]?) := fun b h1 h2 => hdw.r3.grown.block b h2 (fun c => by injection c with c; omega)
          have HAP : Hid (Value.ownBlock (.slice oa n oc) ≠ some g) := fun c => by have := (hgl.row.lt g c).1; omega
          have HLO : Hid (∀ k, Value.ownBlock (.slice oa n oc) = some k → w0.heap.size ≤ k) := fun k c => by have := (hgl.row.lt k c).1; have := HD3.out.rd.gnew; omega
          obtain ⟨pa, pn, pc, rfl⟩ : ∃ pa pn pc, pv = .slice pa pn pc := by obtain ⟨pa, pc, h⟩ := own3_slice hdw.own; exact ⟨_, _, _, h⟩
          clear hdw hgl hP HD3
          go_wp2_with (at_builtin; (refine wpList_append_lkK rfl _ _ 25 rfl (g + 1) i0 _ Try.underlying25 hi0 hz0 hz1 hz2 rfl _ n us (L.flatMap lkDs) rfl HGL.out (by omega) HSZ.out HDW.out.r3.grown.size HKP.out (-1) ⟨#[120]⟩ P _ _ _ HOW.out rfl ?_; intro v' us' w7 hgl7 hgr7; refine hold_goalF ?_))
          have HO7 : Hid (DC w0 a len cap g w7 v' (L ++ [⟨-1, ⟨#[120]⟩, P⟩])) := by
            have h := gl_lkG hgl7 HN.out
            exact ⟨(HDW.out.r3.rd.alloc _).grownP hgr7 HAP.out HLO.out, ⟨_, h⟩, HLE.out⟩
          clear hgl7 hgr7
          unfold Hid
          go_wp2_with fail
          go_ret
          exact ⟨v', L ++ [⟨-1, ⟨#[120]⟩, P⟩], by rw [List.length_append, ← HN.out]; show n + 1 ≤ 9; omega, rfl, HO7.out⟩
        · have h1b : (x == 1) = false := beq_eq_false_iff_ne.2 h1
          go_wp2_with fail
          go_ret
          exact ⟨_, L, by rw [← HN.out]; omega, rfl, HD3.out⟩
end Go.Proofs.Ytpeddaljgmkomaa

/-!   What the laws of chains are drawn of: a chain and a number. -/
namespace Go.Proofs.Ytpeddaljgmkomaa
open Go.RowKit
set_option linter.unusedVariables false
set_option linter.unusedSimpArgs false
set_option maxRecDepth 100000 in
set_option maxHeartbeats 1000000 in
theorem drawVersionAt {w0 : World} {a : Option Addr} {len cap : Nat} {W : World} (hS : Src w0 a len) (hb : Below w0.heap.size w0 W) :
    Calls Try.prog 64 #[.slice a len cap] W fun e w' => (∃ (v : Value) (L : List LkI) (k : Int), L.length ≤ 9 ∧ LkLe L ∧ (Lit.int .i64 k).wf = true ∧ e = .returned (.tuple #[v, .int .i64 k]) ∧ ∃ bs, Hd w' (lksD L) v bs) ∧ Below w0.heap.size w0 w' := by
  go_enter Try.func64, Try.ntmps64
  go_wp2_with fail
  refine (open_any hb).mono ?_
  rintro e w1 ⟨rfl, hr, _⟩
  generalize W.heap.size = g at hr ⊢
  go_wp2_with fail
  refine (chain_drawn hS hr).mono ?_
  rintro e w2 ⟨v, L, hL, rfl, hd⟩
  obtain ⟨b, c, rfl⟩ := hd.form
  obtain ⟨n, hn⟩ : ∃ n, n = L.length := ⟨_, rfl⟩
  rw [← hn] at hd hL ⊢
  have HD := dhid hd
  have HN := dhid hn
  clear hd hn hr hb
  by_cases h0 : n = 0
  · subst h0
    go_wp2_with fail
    refine (off_any hS HD.out.rd 0 0 (by omega) (by omega) (by omega)).mono ?_
    rintro e w3 ⟨⟨x, hx1, hx2, rfl⟩, hr3⟩
    have HD3 := dhid (HD.out.rd3 hr3)
    clear hr3 HD
    go_wp2_with fail
    go_ret2
    exact ⟨⟨_, L, x, by rw [← HN.out]; exact hL, HD3.out.le, Go.WalkArith.wf_i64 ⟨hx1, hx2⟩, rfl, HD3.out.hd⟩, HD3.out.rd.below⟩
  · have hw1 : IntKind.i64.wrap ((n : Int) - 1) = (n : Int) - 1 := by rw [IntKind.wrap_i64]; omega
    have hmx : max 0 ((n : Int) - 1) = (n : Int) - 1 := by omega
    go_wp2_with fail
    refine (off_any hS HD.out.rd 0 ((n : Int) - 1) (by omega) (by omega) (by omega)).mono ?_
    rintro e w3 ⟨⟨x, hx1, hx2, rfl⟩, hr3⟩
    have HD3 := dhid (HD.out.rd3 hr3)
    clear hr3 HD
    go_wp2_with fail
    go_ret2
    exact ⟨⟨_, L, x, by rw [← HN.out]; exact hL, HD3.out.le, Go.WalkArith.wf_i64 ⟨hx1, hx2⟩, rfl, HD3.out.hd⟩, HD3.out.rd.below⟩
set_option maxRecDepth 100000 in
theorem drawWhole {w0 : World} {a : Option Addr} {len cap : Nat} {W : World} (hS : Src w0 a len) (hb : Below w0.heap.size w0 W) :
    Calls Try.prog 35 #[.slice a len cap] W fun e w' => (∃ (v : Value) (L : List LkI) (k : Int), L.length ≤ 9 ∧ LkLe L ∧ (Lit.int .i64 k).wf = true ∧ e = .returned (.tuple #[v, .int .i64 k]) ∧ ∃ bs, Hd w' (lksD L) v bs) ∧ Below w0.heap.size w0 w' := by
  go_enter Try.func35, Try.ntmps35
  go_wp2_with fail
  refine (drawVersionAt hS hb).mono ?_
  rintro e w2 ⟨⟨v, L, k, hL, hle, hk, rfl, hd⟩, hb2⟩
  go_wp2_with fail
  go_ret2
  exact ⟨⟨v, L, k, hL, hle, hk, rfl, hd⟩, hb2⟩
end Go.Proofs.Ytpeddaljgmkomaa
