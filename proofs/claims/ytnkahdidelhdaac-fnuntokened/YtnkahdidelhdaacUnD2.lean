/-
  Tokens that are drawn.
-/
import Derived.Test.YtnkahdidelhdaacUnD
import Derived.Test.YtnkahdidelhdaacTkS
import Derived.Test.YtnkahdidelhdaacTkC
import Derived.Laws.AppendOwnNone
import Derived.Laws.AppendOwn
namespace Go.Proofs.Ytnkahdidelhdaac
open Go.RowKit
set_option linter.unusedVariables false
set_option linter.unusedSimpArgs false
/-- tokens as cells -/
def tkQ (L : List TkI) : List Value := L.flatMap fun t => [.int .i64 t.k, .int .i64 t.b, .int .i64 t.d, .int .i64 t.l]
theorem tkQ_len (L : List TkI) : (tkQ L).length = L.length * 4 := by
  induction L with
  | nil => rfl
  | cons t r ih => simp only [tkQ, List.flatMap_cons, List.length_append, List.length_cons, List.length_nil] at ih ⊢; omega
theorem tkQ_app (L M : List TkI) : tkQ L ++ tkQ M = tkQ (L ++ M) := by simp [tkQ]
theorem tkQ_one (L : List TkI) : ∀ u ∈ tkQ L, u.oneCell' = true := by
  intro u hu
  unfold tkQ at hu
  rw [List.mem_flatMap] at hu
  obtain ⟨t, _, hu⟩ := hu
  simp only [List.mem_cons, List.not_mem_nil, or_false] at hu
  rcases hu with rfl | rfl | rfl | rfl <;> rfl
theorem tkQ_tkC (l : List TkN) : tkQ (l.map tkI) = tkC l := by
  induction l with
  | nil => rfl
  | cons t r ih =>
    show _ ++ tkQ (r.map tkI) = _ ++ tkC r
    rw [ih]; rfl
theorem tkQ_at : ∀ (L : List TkI) (i : Nat), i < L.length → (tkQ L)[4 * i]? = some (.int .i64 (L.getD i ⟨0, 0, 0, 0⟩).k) ∧ (tkQ L)[4 * i + 1]? = some (.int .i64 (L.getD i ⟨0, 0, 0, 0⟩).b) ∧ (tkQ L)[4 * i + 2]? = some (.int .i64 (L.getD i ⟨0, 0, 0, 0⟩).d) ∧ (tkQ L)[4 * i + 3]? = some (.int .i64 (L.getD i ⟨0, 0, 0, 0⟩).l)
  | [], _, h => by simp at h
  | t :: r, 0, _ => ⟨rfl, rfl, rfl, rfl⟩
  | t :: r, i + 1, h => by
    obtain ⟨h0, h1, h2, h3⟩ := tkQ_at r i (by simpa using h)
    exact ⟨h0, h1, h2, h3⟩
abbrev TTok : TypeId := 44
theorem own_argQ {w : World} {B : Nat} {v : Value} {L : List TkI} (h : w.ownsRow B TTok 4 v L.length (tkQ L)) : TkArg w v L.length (fun i => L.getD i ⟨0, 0, 0, 0⟩) := by
  obtain ⟨hl, ⟨h0, hn⟩ | ⟨g, cap, cur, h1, h2, h3, h4, h5, h6, h7⟩⟩ := h
  · exact ⟨none, 0, by rw [hn]; exact h0, fun h => absurd h (by omega)⟩
  · refine ⟨_, _, h1, fun _ => ⟨g, rfl, (Array.getElem?_eq_some_iff.1 h3).1, ?_, ?_, ?_, ?_⟩⟩
    all_goals
      intro i hi
      have hx := tkQ_at L i hi
      rw [cell_of_row w g _ _ _ _ h3]
      rw [← h7] at hx
      simp only [List.getElem?_take] at hx
      obtain ⟨x0, x1, x2, x3⟩ := hx
      rw [if_pos (by omega)] at x0 x1 x2 x3
    · simpa using x0
    · simpa using x1
    · simpa using x2
    · simpa using x3
/-- what may be appended -/
def TSrc (w : World) (v : Value) (L : List TkI) : Prop := (v = .slice none 0 0 ∧ L = []) ∨ ∃ ad c, v = .slice (some ad) L.length c ∧ ∀ (j : Nat) (u : Value), (tkQ L)[j]? = some u → w.cell? (ad.add j) = some u
theorem own_src {w : World} {B : Nat} {v : Value} {L : List TkI} (h : w.ownsRow B TTok 4 v L.length (tkQ L)) : TSrc w v L := by
  obtain ⟨hl, ⟨h0, hn⟩ | ⟨g, cap, cur, h1, h2, h3, h4, h5, h6, h7⟩⟩ := h
  · exact Or.inl ⟨h0, List.eq_nil_of_length_eq_zero hn⟩
  · refine Or.inr ⟨_, _, h1, fun j u hj => ?_⟩
    have ea : (⟨g, 0, none⟩ : Addr).add j = ⟨g, j, none⟩ := by
      unfold Addr.add
      by_cases h0 : j = 0
      · subst h0; simp
      · simp [h0]
    rw [ea, cell_of_row w g j _ _ _ h3]
    rw [← h7, List.getElem?_take] at hj
    split at hj
    · simpa using hj
    · cases hj
theorem TSrc.block {w w' : World} {v : Value} {L : List TkI} (h : TSrc w v L) (hb : ∀ k, v.ownBlock = some k → w'.heap[k]? = w.heap[k]?) : TSrc w' v L := by
  rcases h with h | ⟨ad, c, h1, h2⟩
  · exact Or.inl h
  · refine Or.inr ⟨ad, c, h1, fun j u hj => ?_⟩
    have : (ad.add j).block = ad.block := by unfold Addr.add; split <;> rfl
    exact (World.cell?_of_block (w := w) (w' := w') (a := ad.add j) (by rw [this]; exact hb ad.block (by rw [h1]; rfl))).trans (h2 j u hj)
theorem append_toks {P : Program} {w : World} {ops : Array Oper} {rest : List Oper} {o : Oper} {a : Act} {Q : Exit → Act → World → Prop} (hgd : o.guard = none) (s x : Operand) (t : TypeId)
    (ho : o.op = .call { callee := .builtin .append, args := #[s, x], argTypes := #[t, t] })
    (base : Nat) (i : TypeInfo) (z : Value) (bytes : Nat) (ht : P.underlying t = some (.slice TTok)) (hi : P.info? TTok = some i) (hz : i.zero = some z)
    (hsize : i.size = 4) (hby : i.bytes = bytes) (hzs : z.cells.size = 4)
    (v : Value) (L M : List TkI) (hs : a.eval s = v) (hown : w.ownsRow base TTok 4 v L.length (tkQ L)) (hx : TSrc w (a.eval x) M)
    (h63 : L.length + M.length ≤ maxLen) (hbytes : (L.length + M.length) * bytes ≤ 140737488355328) (hbase : base ≤ w.heap.size)
    (h : ∀ v' w', w'.ownsRow base TTok 4 v' (L ++ M).length (tkQ (L ++ M)) → w.grownBy w' v.ownBlock → wpList P ops Q rest (a.put o.dst v') w') : wpList P ops Q (o :: rest) a w := by
  rcases hx with ⟨he, rfl⟩ | ⟨ad, c, he, hc⟩
  · exact wpList_append_own_none hgd s x t ho base TTok i 4 ht hi v L.length (tkQ L) hs hown he (h v w (by rw [List.append_nil]; exact hown) (World.grownBy.refl _ _))
  · exact wpList_append_own w hgd s x t ho base TTok i z 4 bytes ht hi hz hsize hby hzs (by decide) v L.length (tkQ L) hs hown ad M.length c (tkQ M) he (tkQ_len M) hc (tkQ_one M) h63 hbytes hbase
      (fun v' w' h1 h2 _ => h v' w' (by rw [← tkQ_app, List.length_append]; exact h1) h2)
theorem own_made1 (W : World) (B : Nat) (t : TkI) (hB : B ≤ W.heap.size) : (W.alloc (.cells #[.int .i64 t.k, .int .i64 t.b, .int .i64 t.d, .int .i64 t.l] TTok)).ownsRow B TTok 4 (.slice (some ⟨W.heap.size, 0, none⟩) [t].length 1) [t].length (tkQ [t]) :=
  ⟨rfl, .inr ⟨W.heap.size, 1, _, rfl, hB, heap_alloc_new W _, Nat.le_refl _, by unfold maxLen; decide, rfl, rfl⟩⟩
/-- a drawn list, and the reader -/
structure DU (w0 : World) (a : Option Addr) (len cap g : Nat) (W : World) (v : Value) (L : List TkI) : Prop where
  rd : RD w0 a len cap g W
  own : W.ownsRow w0.heap.size TTok 4 v L.length (tkQ L)
theorem DU.apart {w0 : World} {a : Option Addr} {len cap g : Nat} {W : World} {v : Value} {L : List TkI} (h : DU w0 a len cap g W v L) : v.ownBlock ≠ some g := by
  obtain ⟨_, _, p, _, hh⟩ := h.rd
  obtain ⟨hl, ⟨h0, hn⟩ | ⟨k, c, cur, h1, h2, h3, _⟩⟩ := h.own
  · subst h0; intro c; cases c
  · subst h1
    intro c
    have c : some k = some g := c
    injection c with c
    subst c
    rw [h3] at hh
    injection hh with hh
    injection hh with _ hh _
    exact absurd hh (by decide)
theorem own_keep {w w' : World} {B n : Nat} {e : TypeId} {v : Value} {xs : List Value} (h : w.ownsRow B e 4 v n xs) (hb : ∀ k, v.ownBlock = some k → w'.heap[k]? = w.heap[k]?) : w'.ownsRow B e 4 v n xs := by
  obtain ⟨h0, h1 | ⟨g, cap, cur, h1, h2, h3, h4, h5, h6, h7⟩⟩ := h
  · exact ⟨h0, Or.inl h1⟩
  · exact ⟨h0, Or.inr ⟨g, cap, cur, h1, h2, (hb g (by rw [h1]; rfl)).trans h3, h4, h5, h6, h7⟩⟩
theorem DU.rd3 {w0 : World} {a : Option Addr} {len cap g : Nat} {W W' : World} {v : Value} {L : List TkI} (h : DU w0 a len cap g W v L) (hr : Rd3 w0 a len cap g W W') : DU w0 a len cap g W' v L :=
  ⟨hr.rd, own_keep h.own fun k hk => hr.grown.block k (h.own.lt k hk).2 (fun c => h.apart (hk.trans c))⟩
theorem DU.alloc {w0 : World} {a : Option Addr} {len cap g : Nat} {W : World} {v : Value} {L : List TkI} (h : DU w0 a len cap g W v L) (o : Obj) : DU w0 a len cap g (W.alloc o) v L := ⟨h.rd.alloc o, h.own.alloc o⟩
theorem RD.grown {w0 : World} {a : Option Addr} {len cap g : Nat} {W W' : World} {row : Option Nat} (h : RD w0 a len cap g W) (hg : W.grownBy W' row) (hne : row ≠ some g) (hr : ∀ k, row = some k → w0.heap.size ≤ k) : RD w0 a len cap g W' := by
  have hl := h.lt
  obtain ⟨h1, h2, p, hp, hh⟩ := h
  exact ⟨h1.grown hg h1.size hr, h2, p, hp, by rw [hg.block g hl (fun c => hne c.symm)]; exact hh⟩
theorem DU.grown {w0 : World} {a : Option Addr} {len cap g : Nat} {W W' : World} {v v' : Value} {L L' : List TkI} (h : DU w0 a len cap g W v L) (hg : W.grownBy W' v.ownBlock) (ho : W'.ownsRow w0.heap.size TTok 4 v' L'.length (tkQ L')) : DU w0 a len cap g W' v' L' :=
  ⟨h.rd.grown hg h.apart (fun k hk => (h.own.lt k hk).1), ho⟩
set_option maxRecDepth 100000 in
set_option maxHeartbeats 2000000 in
theorem drawUntoken {w0 : World} {a : Option Addr} {len cap : Nat} {W : World} (hS : Src w0 a len) (hb : Below w0.heap.size w0 W) :
    Calls Try.prog 26 #[.slice a len cap] W fun e w' => (∃ (v : Value) (L : List TkI), L.length ≤ 602 ∧ e = .returned v ∧ w'.ownsRow w0.heap.size TTok 4 v L.length (tkQ L)) ∧ Below w0.heap.size w0 w' := by
  obtain ⟨i0, hi, hz0, hz1, hz2⟩ := info_parts Try.infT
  go_enter Try.func26, Try.ntmps26
  go_wp2_with fail
  refine (open_any hb).mono ?_
  rintro e w1 ⟨rfl, hr, _⟩
  generalize W.heap.size = g at hr ⊢
  go_wp2_with fail
  refine (data_any hS hr 5 (by omega) (by omega)).mono ?_
  rintro e w2 ⟨⟨s, hs, rfl⟩, hr2⟩
  have HR2 : Hid (RD w0 a len cap g w2) := hr2.rd
  clear hr hr2 hb
  go_wp2_with fail
  refine (stokens_any s _ (by omega)).mono ?_
  rintro e w3 ⟨⟨v, rfl, ho⟩, hb3⟩
  obtain ⟨L, hL, hLQ, hLn⟩ : ∃ L : List TkI, L.length = (tkL s).length ∧ tkQ L = tkC (tkL s) ∧ L.length ≤ 600 := ⟨(tkL s).map tkI, by simp, tkQ_tkC _, by have := (tkL_shape s).2.2; simp; omega⟩
  rw [← hL, ← hLQ] at ho
  have HD : Hid (DU w0 a len cap g w3 v L) := ⟨HR2.out.past hb3, owns_base ho HR2.out.below.size⟩
  clear ho hb3 HR2 hL hLQ
  go_wp2_with fail
  refine (once_any hS HD.out.rd 2 (by omega) (by omega)).mono ?_
  rintro e w4 ⟨⟨x, rfl⟩, hr4⟩
  have HD4 : Hid (DU w0 a len cap g w4 v L) := HD.out.rd3 hr4
  clear hr4 HD
  cases x with
  | true =>
    go_wp2_with fail
    refine (token_any hS HD4.out.rd).mono ?_
    rintro e w5 ⟨⟨t, rfl⟩, hr5⟩
    unfold tokV
    have HD5 : Hid (DU w0 a len cap g (w5.alloc (.cells #[.int .i64 t.k, .int .i64 t.b, .int .i64 t.d, .int .i64 t.l] TTok)) v L) := (HD4.out.rd3 hr5).alloc _
    clear hr5 HD4
    have HTS : Hid (TSrc (w5.alloc (.cells #[.int .i64 t.k, .int .i64 t.b, .int .i64 t.d, .int .i64 t.l] TTok)) (.slice (some ⟨w5.heap.size, 0, none⟩) 1 1) [t]) := own_src (own_made1 w5 0 t (Nat.zero_le _))
    go_wp2_with (at_builtin; (refine append_toks rfl _ _ 38 rfl w0.heap.size i0 _ 32 Try.underlying38 hi hz0 hz1 hz2 rfl v L [t] rfl HD5.out.own HTS.out ?c3 ?c4 ?c5 ?_))
    case c3 => show L.length + 1 ≤ _; unfold maxLen; omega
    case c4 => show (L.length + 1) * 32 ≤ _; omega
    case c5 => exact HD5.out.rd.below.size
    intro v' w6 ho6 hg6
    have HD6 : Hid (DU w0 a len cap g w6 v' (L ++ [t])) := HD5.out.grown hg6 (by rw [List.length_append]; exact ho6)
    have hLn6 : (L ++ [t]).length ≤ 601 := by simp; omega
    clear ho6 hg6 HD5 HTS hLn
    generalize L ++ [t] = L6 at HD6 hLn6
    go_wp2_with fail
    refine (once_any hS HD6.out.rd 3 (by omega) (by omega)).mono ?_
    rintro e w7 ⟨⟨y, rfl⟩, hr7⟩
    have HD7 : Hid (DU w0 a len cap g w7 v' L6) := HD6.out.rd3 hr7
    clear hr7 HD6
    cases y with
    | true =>
      go_wp2_with fail
      refine (token_any hS HD7.out.rd).mono ?_
      rintro e w8 ⟨⟨t2, rfl⟩, hr8⟩
      unfold tokV
      have HD8 : Hid (DU w0 a len cap g (w8.alloc (.cells #[.int .i64 t2.k, .int .i64 t2.b, .int .i64 t2.d, .int .i64 t2.l] TTok)) v' L6) := (HD7.out.rd3 hr8).alloc _
      have HB8 : Hid (w0.heap.size ≤ w8.heap.size) := hr8.rd.below.size
      clear hr8 HD7
      have HOM : Hid ((w8.alloc (.cells #[.int .i64 t2.k, .int .i64 t2.b, .int .i64 t2.d, .int .i64 t2.l] TTok)).ownsRow w0.heap.size TTok 4 (.slice (some ⟨w8.heap.size, 0, none⟩) 1 1) [t2].length (tkQ [t2])) := own_made1 w8 _ t2 HB8.out
      have HTS2 : Hid (TSrc (w8.alloc (.cells #[.int .i64 t2.k, .int .i64 t2.b, .int .i64 t2.d, .int .i64 t2.l] TTok)) v' L6) := own_src HD8.out.own
      go_wp2_with (at_builtin; (refine append_toks rfl _ _ 38 rfl w0.heap.size i0 _ 32 Try.underlying38 hi hz0 hz1 hz2 rfl (.slice (some ⟨w8.heap.size, 0, none⟩) 1 1) [t2] L6 rfl HOM.out HTS2.out ?c3 ?c4 ?c5 ?_))
      case c3 => show 1 + L6.length ≤ _; unfold maxLen; omega
      case c4 => show (1 + L6.length) * 32 ≤ _; omega
      case c5 => exact HD8.out.rd.below.size
      intro v9 w9 ho9 hg9
      have HB9 : Hid (Below w0.heap.size w0 w9) := HD8.out.rd.below.grown hg9 HD8.out.rd.below.size (fun k hk => (HOM.out.lt k hk).1)
      have HO9 : Hid (w9.ownsRow w0.heap.size TTok 4 v9 ([t2] ++ L6).length (tkQ ([t2] ++ L6))) := by first | exact ho9 | (rw [List.length_append]; exact ho9) | simpa using ho9
      clear ho9 hg9 HD8 HOM HTS2
      go_wp2_with fail
      go_ret
      exact ⟨⟨v9, _, by simp; omega, rfl, HO9.out⟩, HB9.out⟩
    | false =>
      go_wp2_with fail
      go_ret
      exact ⟨⟨v', L6, by omega, rfl, HD7.out.own⟩, HD7.out.rd.below⟩
  | false =>
    have hLn6 : L.length ≤ 601 := by omega
    have HD6 : Hid (DU w0 a len cap g w4 v L) := HD4.out
    clear hLn HD4
    generalize L = L6 at HD6 hLn6
    generalize hw6 : w4 = w6 at HD6 ⊢
    clear hw6
    generalize hv6 : v = v' at HD6 ⊢
    clear hv6
    go_wp2_with fail
    refine (once_any hS HD6.out.rd 3 (by omega) (by omega)).mono ?_
    rintro e w7 ⟨⟨y, rfl⟩, hr7⟩
    have HD7 : Hid (DU w0 a len cap g w7 v' L6) := HD6.out.rd3 hr7
    clear hr7 HD6
    cases y with
    | true =>
      go_wp2_with fail
      refine (token_any hS HD7.out.rd).mono ?_
      rintro e w8 ⟨⟨t2, rfl⟩, hr8⟩
      unfold tokV
      have HD8 : Hid (DU w0 a len cap g (w8.alloc (.cells #[.int .i64 t2.k, .int .i64 t2.b, .int .i64 t2.d, .int .i64 t2.l] TTok)) v' L6) := (HD7.out.rd3 hr8).alloc _
      have HB8 : Hid (w0.heap.size ≤ w8.heap.size) := hr8.rd.below.size
      clear hr8 HD7
      have HOM : Hid ((w8.alloc (.cells #[.int .i64 t2.k, .int .i64 t2.b, .int .i64 t2.d, .int .i64 t2.l] TTok)).ownsRow w0.heap.size TTok 4 (.slice (some ⟨w8.heap.size, 0, none⟩) 1 1) [t2].length (tkQ [t2])) := own_made1 w8 _ t2 HB8.out
      have HTS2 : Hid (TSrc (w8.alloc (.cells #[.int .i64 t2.k, .int .i64 t2.b, .int .i64 t2.d, .int .i64 t2.l] TTok)) v' L6) := own_src HD8.out.own
      go_wp2_with (at_builtin; (refine append_toks rfl _ _ 38 rfl w0.heap.size i0 _ 32 Try.underlying38 hi hz0 hz1 hz2 rfl (.slice (some ⟨w8.heap.size, 0, none⟩) 1 1) [t2] L6 rfl HOM.out HTS2.out ?c3 ?c4 ?c5 ?_))
      case c3 => show 1 + L6.length ≤ _; unfold maxLen; omega
      case c4 => show (1 + L6.length) * 32 ≤ _; omega
      case c5 => exact HD8.out.rd.below.size
      intro v9 w9 ho9 hg9
      have HB9 : Hid (Below w0.heap.size w0 w9) := HD8.out.rd.below.grown hg9 HD8.out.rd.below.size (fun k hk => (HOM.out.lt k hk).1)
      have HO9 : Hid (w9.ownsRow w0.heap.size TTok 4 v9 ([t2] ++ L6).length (tkQ ([t2] ++ L6))) := by first | exact ho9 | (rw [List.length_append]; exact ho9) | simpa using ho9
      clear ho9 hg9 HD8 HOM HTS2
      go_wp2_with fail
      go_ret
      exact ⟨⟨v9, _, by simp; omega, rfl, HO9.out⟩, HB9.out⟩
    | false =>
      go_wp2_with fail
      go_ret
      exact ⟨⟨v', L6, by omega, rfl, HD7.out.own⟩, HD7.out.rd.below⟩
end Go.Proofs.Ytnkahdidelhdaac
