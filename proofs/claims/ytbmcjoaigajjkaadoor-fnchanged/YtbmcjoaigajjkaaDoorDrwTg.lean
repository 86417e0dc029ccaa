/-
  Two trees that are drawn: the second one anew, or the first with another mode at one node.
-/
import Derived.Test.YtbmcjoaigajjkaaDoorDrwTk
import Derived.Laws.AppendOwnNone
namespace Go.Proofs.YtbmcjoaigajjkaaDoor
open Go.RowKit
set_option linter.unusedVariables false
set_option linter.unusedSimpArgs false
theorem ndC_set : ∀ (L : List NdI) (i : Nat) (p : NdI) (m : Int), L[i]? = some p → ndC (L.set i ⟨p.p, p.r, m, p.d⟩) = (ndC L).set (4 * i + 2) (.int .i64 m)
  | [], i, p, m, h => by simp at h
  | q :: L, 0, p, m, h => by
    have e : q = p := by simpa using h
    subst e
    rfl
  | q :: L, i + 1, p, m, h => by
    have ih := ndC_set L i p m (by simpa using h)
    have e : ndC (q :: L) = [.string q.p, .bool q.r, .int .i64 q.m, .string q.d] ++ ndC L := rfl
    have e2 : ndC (q :: L.set i ⟨p.p, p.r, m, p.d⟩) = [.string q.p, .bool q.r, .int .i64 q.m, .string q.d] ++ ndC (L.set i ⟨p.p, p.r, m, p.d⟩) := rfl
    show ndC (q :: L.set i ⟨p.p, p.r, m, p.d⟩) = _
    rw [e, e2, ih]
    have e3 : 4 * (i + 1) + 2 = 4 + (4 * i + 2) := by omega
    rw [e3, List.set_append_right _ _ (by simp)]
    congr 2
    simp
theorem own4_mode {w : World} {B g c : Nat} {L : List NdI} {i : Nat} {p : NdI} (h : w.ownsRow B 32 4 (.slice (some ⟨g, 0, none⟩) L.length c) L.length (ndC L)) (hp : L[i]? = some p) (m : Int) :
    (w.setCell ⟨g, 4 * i + 2, none⟩ (.int .i64 m)).ownsRow B 32 4 (.slice (some ⟨g, 0, none⟩) (L.set i ⟨p.p, p.r, m, p.d⟩).length c) (L.set i ⟨p.p, p.r, m, p.d⟩).length (ndC (L.set i ⟨p.p, p.r, m, p.d⟩)) := by
  obtain ⟨h0, ⟨h1, _⟩ | ⟨g1, cap, cur, h1, h2, h3, h4, h5, h6, h7⟩⟩ := h
  · cases h1
  · cases h1
    rw [List.length_set]
    refine ⟨by rw [ndC_len, List.length_set]; omega, Or.inr ⟨g, c, cur.setIfInBounds (4 * i + 2) (.int .i64 m), rfl, h2, heap_setCell_same _ _ _ _ _ _ h3, h4, h5, by simpa using h6, ?_⟩⟩
    rw [ndC_set L i p m hp, ← h7, Array.toList_setIfInBounds, List.take_set]
theorem ndC_four : ∀ (L : List NdI), ∀ u ∈ ndC L, u.oneCell' = true
  | [], u, h => by cases h
  | p :: L, u, h => by
    have e : ndC (p :: L) = [.string p.p, .bool p.r, .int .i64 p.m, .string p.d] ++ ndC L := rfl
    rw [e] at h
    rcases List.mem_append.1 h with h | h
    · exact four_one _ _ _ _ u h
    · exact ndC_four L u h
theorem own4_cells {w : World} {B g n c : Nat} {xs : List Value} (h : w.ownsRow B 32 4 (.slice (some ⟨g, 0, none⟩) n c) n xs) : ∀ j u, xs[j]? = some u → w.cell? ((⟨g, 0, none⟩ : Addr).add j) = some u := World.ownsRow.cells (g := g) h rfl
theorem ndC_app (L M : List NdI) : ndC (L ++ M) = ndC L ++ ndC M := by simp [ndC]
/-- a list of nodes behind another one -/
theorem append_nds {P : Program} {w : World} {ops : Array Oper} {rest : List Oper} {o : Oper} {a : Act} {Q : Exit → Act → World → Prop} (hgd : o.guard = none) (s x : Operand) (t : TypeId)
    (ho : o.op = .call { callee := .builtin .append, args := #[s, x], argTypes := #[t, t] })
    (base : Nat) (i : TypeInfo) (z : Value) (ht : P.underlying t = some (.slice 32)) (hi : P.info? 32 = some i) (hz : i.zero = some z)
    (hsize : i.size = 4) (hby : i.bytes = 48) (hzs : z.cells.size = 4)
    (v u : Value) (L M : List NdI) {B : Nat} (hs : a.eval s = v) (hown : w.ownsRow base 32 4 v L.length (ndC L)) (hx : a.eval x = u) (hv : w.ownsRow B 32 4 u M.length (ndC M))
    (hn : L.length + M.length ≤ 4000) (hbase : base ≤ w.heap.size)
    (h : ∀ v' w', w'.ownsRow base 32 4 v' (L ++ M).length (ndC (L ++ M)) → w.grownBy w' v.ownBlock → wpList P ops Q rest (a.put o.dst v') w') : wpList P ops Q (o :: rest) a w := by
  have hv0 := hv
  obtain ⟨_, ⟨he, h0⟩ | ⟨g, c, cur, he, _⟩⟩ := hv
  · have e0 : M = [] := List.length_eq_zero_iff.1 h0
    subst e0
    exact wpList_append_own_none hgd s x t ho base 32 i 4 ht hi v L.length (ndC L) hs hown (hx.trans he) (h v w (by rw [List.append_nil]; exact hown) (World.grownBy.refl _ _))
  · subst he
    exact wpList_append_own w hgd s x t ho base 32 i z 4 48 ht hi hz hsize hby hzs (by decide) v L.length (ndC L) hs hown ⟨g, 0, none⟩ M.length c (ndC M) hx (by rw [ndC_len]; omega) (own4_cells hv0) (ndC_four M) (by unfold maxLen; omega) (by omega) hbase
      (fun v' w' h1 h2 _ => h v' w' (by rw [ndC_app, List.length_append]; exact h1) h2)
theorem hidG {p : Prop} (h : p) : Hid p := h
/-- two drawn lists of nodes -/
structure DN2 (w0 : World) (w : World) (v u : Value) (L M : List NdI) : Prop where
  bel : Below w0.heap.size w0 w
  o1 : w.ownsRow w0.heap.size 32 4 v L.length (ndC L)
  o2 : w.ownsRow w0.heap.size 32 4 u M.length (ndC M)
  s1 : L.length ≤ 10 ∧ ∀ p ∈ L, p.p.size ≤ 100 ∧ p.d.size ≤ 600
  s2 : M.length ≤ 10 ∧ ∀ p ∈ M, p.p.size ≤ 100 ∧ p.d.size ≤ 600
set_option maxRecDepth 100000 in
set_option maxHeartbeats 2000000 in
theorem drawChanged {w0 : World} {a : Option Addr} {len cap : Nat} {W : World} (hS : Src w0 a len) (hb : Below w0.heap.size w0 W) :
    Calls Tryd.prog 6 #[.slice a len cap] W fun e w' => ∃ (v u : Value) (L M : List NdI), e = .returned (.tuple #[v, u]) ∧ DN2 w0 w' v u L M := by
  obtain ⟨i0, hi, hz0, hz1, hz2⟩ := info_parts Tryd.infNd
  go_enter Tryd.func6, Tryd.ntmps6
  go_wp2_with fail
  refine (open_any hb).mono ?_
  rintro e w1 ⟨rfl, hr, _⟩
  generalize W.heap.size = g at hr ⊢
  have HR2 := hidG hr
  have HS := hidG hS
  clear hr hb hS
  go_wp2_with fail
  refine (tree_kept HS.out HR2.out).mono ?_
  rintro e w3 ⟨v, L, hL, rfl, hd⟩
  have HD3 := hidG hd
  have HL := hidG hL
  clear hd HR2
  go_wp2_with fail
  refine (once_any HS.out HD3.out.rd 3 (by omega) (by omega)).mono ?_
  rintro e w4 ⟨⟨x, rfl⟩, hr4⟩
  have HD4 := hidG (HD3.out.rd3 hr4)
  clear hr4 HD3
  cases x with
  | false =>
    go_wp2_with fail
    refine (tree_kept HS.out HD4.out.rd).mono ?_
    rintro e w5 ⟨u, M, hM, rfl, hd5⟩
    have HD5 := hidG hd5
    have HO : Hid (w5.ownsRow w0.heap.size 32 4 v L.length (ndC L)) := own4_base (own4_keep HD4.out.own fun k hk => hd5.gr.block k (HD4.out.own.lt k hk).2 (fun c => HD4.out.apart (hk.trans c))) HD4.out.lo
    clear hd5
    go_wp2_with fail
    go_ret2
    exact ⟨_, _, L, M, rfl, ⟨HD5.out.rd.below, HO.out, own4_base HD5.out.own HD5.out.lo, ⟨HL.out, HD4.out.sz⟩, ⟨hM, HD5.out.sz⟩⟩⟩
  | true =>
    have hown0 : (w4.alloc (.cells #[] 32)).ownsRow w4.heap.size 32 4 (.slice (some ⟨w4.heap.size, 0, none⟩) 0 0) ([] : List NdI).length (ndC []) := World.ownsRow_made (e := 32) (size := 4) w4 #[] 0 (Nat.le_refl _) (by unfold maxLen; omega) rfl
    have HOW := hidG hown0
    have HD5 := hidG (HD4.out.alloc (.cells #[] 32))
    have hgl := HD4.out.rd.lt
    obtain ⟨av, cv, hav⟩ := own4_slice HD5.out.own
    subst hav
    clear hown0
    go_wp2_with (at_builtin; (refine append_nds rfl _ _ 24 rfl w4.heap.size i0 _ Tryd.underlying24 hi hz0 hz1 hz2 rfl _ _ [] L rfl HOW.out rfl HD5.out.own ?k3 ?k5 ?_))
    case k3 => simp; omega
    case k5 => rw [World.size_alloc]; omega
    intro v6 w6 hown6 hgrow6
    have hown6 : w6.ownsRow w4.heap.size 32 4 v6 L.length (ndC L) := hown6
    have hnv : ∀ k, (Value.slice av L.length cv).ownBlock = some k → k < w4.heap.size := fun k hk => (HD4.out.own.lt k hk).2
    have HR6 : Hid (RD w0 a len cap g w6) := HD5.out.rd.grownN hgrow6 (fun c => by have e : w4.heap.size = g := Option.some.inj c; omega) (fun k hk => by have e : w4.heap.size = k := Option.some.inj hk; rw [← e]; exact HD4.out.rd.below.size)
    have HV6 : Hid (w6.ownsRow w0.heap.size 32 4 (.slice av L.length cv) L.length (ndC L)) := own4_base (own4_keep HD5.out.own fun k hk => hgrow6.block k (by rw [World.size_alloc]; have := hnv k hk; omega) (fun c => by have e : k = w4.heap.size := Option.some.inj c; have := hnv k hk; omega)) HD5.out.lo
    have HU6 : Hid (w6.ownsRow w4.heap.size 32 4 v6 L.length (ndC L)) := hown6
    have HSZ := hidG HD5.out.sz
    have HLO : Hid (w0.heap.size ≤ w4.heap.size) := HD4.out.rd.below.size
    have HGL : Hid (g < w4.heap.size) := hgl
    have HNV := hidG hnv
    have HAP : Hid ((Value.slice av L.length cv).ownBlock ≠ some g) := HD4.out.apart
    clear hown6 hgrow6 HD5 HD4 HOW hgl hnv
    obtain ⟨bv, dv, hbv⟩ := own4_slice HU6.out
    subst hbv
    by_cases h0 : 0 < L.length
    · have h0I : (0 : Int) < (L.length : Int) := by omega
      have h1I : (1 : Int) ≤ (L.length : Int) := by omega
      have h2I : (L.length : Int) ≤ 1099511627776 := by omega
      obtain ⟨gb, capb, curb, hf1, hf2, hf3, _⟩ := own4_form HU6.out h0
      cases hf1
      have HGB : Hid (w4.heap.size ≤ gb) := hf2
      clear hf3
      go_wp2_with fail
      refine (below_any HS.out HR6.out (L.length : Int) h1I h2I).mono ?_
      rintro e w7 ⟨⟨x, hx1, hx2, rfl⟩, hr7⟩
      obtain ⟨i, rfl⟩ := Int.eq_ofNat_of_zero_le hx1
      have HR7 := hidG hr7.rd
      have HV7 : Hid (w7.ownsRow w0.heap.size 32 4 (.slice av L.length cv) L.length (ndC L)) := own4_keep HV6.out fun k hk => hr7.grown.block k (HV6.out.lt k hk).2 (fun c => HAP.out (hk.trans c))
      have HU7 : Hid (w7.ownsRow w4.heap.size 32 4 (.slice (some ⟨gb, 0, none⟩) L.length dv) L.length (ndC L)) := own4_keep HU6.out fun k hk => hr7.grown.block k (HU6.out.lt k hk).2 (fun c => by have e : k = g := Option.some.inj c; have e2 : gb = k := Option.some.inj hk; have := HGB.out; have := HGL.out; omega)
      clear hr7 HR6 HV6 HU6
      go_wp2_with fail
      refine (below_any HS.out HR7.out 3 (by omega) (by omega)).mono ?_
      rintro e w8 ⟨⟨y, hy1, hy2, rfl⟩, hr8⟩
      have HR8 := hidG hr8.rd
      have HV8 : Hid (w8.ownsRow w0.heap.size 32 4 (.slice av L.length cv) L.length (ndC L)) := own4_keep HV7.out fun k hk => hr8.grown.block k (HV7.out.lt k hk).2 (fun c => HAP.out (hk.trans c))
      have HU8 : Hid (w8.ownsRow w4.heap.size 32 4 (.slice (some ⟨gb, 0, none⟩) L.length dv) L.length (ndC L)) := own4_keep HU7.out fun k hk => hr8.grown.block k (HU7.out.lt k hk).2 (fun c => by have e : k = g := Option.some.inj c; have e2 : gb = k := Option.some.inj hk; have := HGB.out; have := HGL.out; omega)
      clear hr8 HR7 HV7 HU7 hy1 hy2
      have hin : i < L.length := by omega
      have hinI : (i : Int) < (L.length : Int) := by omega
      have hi0 : (0 : Int) ≤ (i : Int) := by omega
      obtain ⟨gx, capx, curx, hx1', hx2', hx3, hx4, hx5⟩ := own4_form HU8.out h0
      cases hx1'
      obtain ⟨q, hq⟩ : ∃ q, q = 4 * i := ⟨_, rfl⟩
      have hiq : i * 4 = q := by omega
      have x2 : w8.cell? ⟨gb, q + 2, none⟩ = some (.int .i64 (ndF L i).m) := (cell_of_row _ _ _ _ _ _ hx3).trans (hx5 _ _ (by rw [hq]; exact (ndC_at L i hin).2.2.1))
      have z2 := frozen_of_row w8 gb (q + 2) _ _ hx3
      have HP : Hid (L[i]? = some (ndF L i)) := by show _ = _; rw [List.getElem?_eq_getElem hin]; unfold ndF; simp [hin]
      have HQ := hidG hq
      have HFIN : Hid (DN2 w0 (w8.setCell ⟨gb, q + 2, none⟩ (.int .i64 y)) (.slice av L.length cv) (.slice (some ⟨gb, 0, none⟩) L.length dv) L (L.set i ⟨(ndF L i).p, (ndF L i).r, y, (ndF L i).d⟩)) := by
        have hM := own4_mode HU8.out HP.out y
        rw [← hq] at hM
        refine ⟨?_, own4_set HV8.out (fun c => by have := HNV.out gb c; have := HGB.out; omega) _ _, ?_, ⟨HL.out, HSZ.out⟩, ⟨by rw [List.length_set]; exact HL.out, fun p hp => ?_⟩⟩
        · exact HR8.out.below.setCell (p := ⟨gb, q + 2, none⟩) (by have := HGB.out; have := HLO.out; show w0.heap.size ≤ gb; omega) _
        · rw [List.length_set] at hM ⊢
          exact own4_base hM HLO.out
        · rcases List.mem_or_eq_of_mem_set hp with h | h
          · exact HSZ.out p h
          · rw [h]
            exact HSZ.out (ndF L i) (List.mem_of_getElem? HP.out)
      clear hx3 hx4 hx5 hx2' hq hx1 hx2 hf2 HV8 HU8 HR8
      go_wp2_with fail
      go_ret2
      exact ⟨_, _, L, _, rfl, HFIN.out⟩
    · have h0I : ¬ (0 : Int) < (L.length : Int) := by omega
      have HFIN : Hid (DN2 w0 w6 (.slice av L.length cv) (.slice bv L.length dv) L L) := ⟨HR6.out.below, HV6.out, own4_base HU6.out HLO.out, ⟨HL.out, HSZ.out⟩, ⟨HL.out, HSZ.out⟩⟩
      clear h0
      go_wp2_with fail
      go_ret2
      exact ⟨_, _, rfl, L, L, HFIN.out⟩
end Go.Proofs.YtbmcjoaigajjkaaDoor
