/-
  A tree that is drawn, all else as it was but the reader.
-/
import Derived.Test.YtbmcjoaigajjkaaDoorTrT
import Derived.Test.YtbmcjoaigajjkaaDoorRtL
import Derived.Test.YtbmcjoaigajjkaaDoorDrwPth
import Derived.Test.YtbmcjoaigajjkaaDoorDrwAll
import Derived.Test.YtbmcjoaigajjkaaDoorAppF
namespace Go.Proofs.YtbmcjoaigajjkaaDoor
open Go.RowKit
set_option linter.unusedVariables false
set_option linter.unusedSimpArgs false
/-- a drawn list of nodes, and the reader -/
structure DN (w0 : World) (a : Option Addr) (len cap g : Nat) (wk W : World) (v : Value) (L : List NdI) : Prop where
  rd : RD w0 a len cap g W
  lo : w0.heap.size ≤ wk.heap.size
  gr : wk.grownBy W (some g)
  own : W.ownsRow wk.heap.size 32 4 v L.length (ndC L)
  sz : ∀ p ∈ L, p.p.size ≤ 100 ∧ p.d.size ≤ 600
theorem DN.apart {w0 wk : World} {a : Option Addr} {len cap g : Nat} {W : World} {v : Value} {L : List NdI} (h : DN w0 a len cap g wk W v L) : v.ownBlock ≠ some g := by
  obtain ⟨_, _, p, _, hh⟩ := h.rd
  obtain ⟨hl, ⟨h0, hn⟩ | ⟨k, c, cur, h1, h2, h3, _⟩⟩ := h.own
  · subst h0; intro c; cases c
  · subst h1
    intro c
    have c : some k = some g := c
    injection c with c
    subst c
    rw [h3] at hh
    injection hh with hh
    injection hh with _ hh _
    exact absurd hh (by decide)
theorem own4_keep {w w' : World} {B n : Nat} {e : TypeId} {v : Value} {xs : List Value} (h : w.ownsRow B e 4 v n xs) (hb : ∀ k, v.ownBlock = some k → w'.heap[k]? = w.heap[k]?) : w'.ownsRow B e 4 v n xs := by
  obtain ⟨h0, h1 | ⟨g, cap, cur, h1, h2, h3, h4, h5, h6, h7⟩⟩ := h
  · exact ⟨h0, Or.inl h1⟩
  · exact ⟨h0, Or.inr ⟨g, cap, cur, h1, h2, (hb g (by rw [h1]; rfl)).trans h3, h4, h5, h6, h7⟩⟩
theorem DN.rd3 {w0 wk : World} {a : Option Addr} {len cap g : Nat} {W W' : World} {v : Value} {L : List NdI} (h : DN w0 a len cap g wk W v L) (hr : Rd3 w0 a len cap g W W') : DN w0 a len cap g wk W' v L :=
  ⟨hr.rd, h.lo, h.gr.trans hr.grown, own4_keep h.own fun k hk => hr.grown.block k (h.own.lt k hk).2 (fun c => h.apart (hk.trans c)), h.sz⟩
theorem DN.alloc {w0 wk : World} {a : Option Addr} {len cap g : Nat} {W : World} {v : Value} {L : List NdI} (h : DN w0 a len cap g wk W v L) (o : Obj) : DN w0 a len cap g wk (W.alloc o) v L := ⟨h.rd.alloc o, h.lo, h.gr.trans (World.grownBy_alloc W o _), h.own.alloc o, h.sz⟩
theorem RD.grownN {w0 : World} {a : Option Addr} {len cap g : Nat} {W W' : World} {row : Option Nat} (h : RD w0 a len cap g W) (hg : W.grownBy W' row) (hne : row ≠ some g) (hr : ∀ k, row = some k → w0.heap.size ≤ k) : RD w0 a len cap g W' := by
  have hl := h.lt
  obtain ⟨h1, h2, p, hp, hh⟩ := h
  exact ⟨h1.grown hg h1.size hr, h2, p, hp, by rw [hg.block g hl (fun c => hne c.symm)]; exact hh⟩
theorem DN.grown {w0 wk : World} {a : Option Addr} {len cap g : Nat} {W W' : World} {v v' : Value} {L : List NdI} {p : NdI} (h : DN w0 a len cap g wk W v L) (hp : p.p.size ≤ 100 ∧ p.d.size ≤ 600) (hg : W.grownBy W' v.ownBlock) (ho : W'.ownsRow wk.heap.size 32 4 v' (L ++ [p]).length (ndC (L ++ [p]))) : DN w0 a len cap g wk W' v' (L ++ [p]) :=
  ⟨h.rd.grownN hg h.apart (fun k hk => Nat.le_trans h.lo (h.own.lt k hk).1), h.lo, h.gr.andThen hg (fun j hj => Or.inl (h.own.lt j hj).1), ho, fun x hx => by
    rcases List.mem_append.1 hx with h1 | h1
    · exact h.sz x h1
    · obtain rfl : x = p := by simpa using h1
      exact hp⟩
theorem DN.set {w0 wk : World} {a : Option Addr} {len cap g : Nat} {W : World} {v : Value} {L : List NdI} (h : DN w0 a len cap g wk W v L) (B t : Nat) (u : Value) (h1 : B ≠ g) (h2 : wk.heap.size ≤ B) (h3 : v.ownBlock ≠ some B) : DN w0 a len cap g wk (W.setCell ⟨B, t, none⟩ u) v L :=
  ⟨h.rd.grownN (grownBy_setP W B t u) (fun c => h1 (Option.some.inj c)) (fun k hk => by cases hk; exact Nat.le_trans h.lo h2), h.lo, h.gr.andThen (grownBy_setP W B t u) (fun j hj => by cases hj; exact Or.inl h2), own4_set h.own h3 t u, h.sz⟩
def trVals : Array Value := #[.string ⟨#[97]⟩, .bool true, .int .i64 0, .string ⟨#[]⟩, .string ⟨#[97, 47, 98]⟩, .bool true, .int .i64 0, .string ⟨#[]⟩, .string ⟨#[97, 47, 98, 47, 99, 46, 103, 111]⟩, .bool false, .int .i64 0, .string ⟨#[]⟩, .string ⟨#[97, 47, 120, 46, 103, 111]⟩, .bool false, .int .i64 0, .string ⟨#[]⟩, .string ⟨#[98, 46, 116, 120, 116]⟩, .bool false, .int .i64 0, .string ⟨#[]⟩, .string ⟨#[99]⟩, .bool true, .int .i64 0, .string ⟨#[]⟩, .string ⟨#[99, 47, 46, 120]⟩, .bool false, .int .i64 0, .string ⟨#[]⟩, .string ⟨#[99, 47, 101]⟩, .bool true, .int .i64 0, .string ⟨#[]⟩, .string ⟨#[122, 46, 116, 97, 114, 46, 103, 122]⟩, .bool false, .int .i64 0, .string ⟨#[]⟩]
theorem trVals_at : ∀ k : Nat, k < 9 → ∃ (s : ByteArray) (r : Bool), s.size ≤ 100 ∧ trVals[4 * k]? = some (.string s) ∧ trVals[4 * k + 1]? = some (.bool r) ∧ trVals[4 * k + 2]? = some (.int .i64 0) ∧ trVals[4 * k + 3]? = some (.string ⟨#[]⟩)
  | 0, _ => ⟨_, _, by decide, rfl, rfl, rfl, rfl⟩
  | 1, _ => ⟨_, _, by decide, rfl, rfl, rfl, rfl⟩
  | 2, _ => ⟨_, _, by decide, rfl, rfl, rfl, rfl⟩
  | 3, _ => ⟨_, _, by decide, rfl, rfl, rfl, rfl⟩
  | 4, _ => ⟨_, _, by decide, rfl, rfl, rfl, rfl⟩
  | 5, _ => ⟨_, _, by decide, rfl, rfl, rfl, rfl⟩
  | 6, _ => ⟨_, _, by decide, rfl, rfl, rfl, rfl⟩
  | 7, _ => ⟨_, _, by decide, rfl, rfl, rfl, rfl⟩
  | 8, _ => ⟨_, _, by decide, rfl, rfl, rfl, rfl⟩
  | k + 9, h => absurd h (by omega)
def mdVals : Array Value := #[.int .i64 420, .int .i64 493, .int .i64 0, .int .i64 511]
theorem mdVals_at : ∀ k : Nat, k < 4 → ∃ m : Int, mdVals[k]? = some (.int .i64 m)
  | 0, _ => ⟨_, rfl⟩
  | 1, _ => ⟨_, rfl⟩
  | 2, _ => ⟨_, rfl⟩
  | 3, _ => ⟨_, rfl⟩
  | k + 4, h => absurd h (by omega)
theorem intTr_le (x : Int) : True := trivial
def intTr : Value → Int | .int _ q => q | _ => 0
theorem row_ltT {w : World} {g : Nat} {X : Obj} (h : w.heap[g]? = some X) : g < w.heap.size := (Array.getElem?_eq_some_iff.1 h).1
/-- what a round of the drawing holds -/
structure TS (w0 : World) (a : Option Addr) (len cap g C : Nat) (wk W : World) (gv cp : Nat) (L : List NdI) : Prop where
  dn : DN w0 a len cap g wk W (.slice (some ⟨gv, 0, none⟩) L.length cp) L
  row : W.heap[C]? = some (.cells trVals 32 (0, 0))
  nev : gv ≠ C
  neg : C ≠ g
theorem TS.rd3 {w0 wk : World} {a : Option Addr} {len cap g C : Nat} {W W' : World} {gv cp : Nat} {L : List NdI} (h : TS w0 a len cap g C wk W gv cp L) (hr : Rd3 w0 a len cap g W W') : TS w0 a len cap g C wk W' gv cp L :=
  ⟨h.dn.rd3 hr, (hr.grown.block C (row_ltT h.row) (fun e => h.neg (Option.some.inj e))).trans h.row, h.nev, h.neg⟩
theorem TS.alloc {w0 wk : World} {a : Option Addr} {len cap g C : Nat} {W : World} {gv cp : Nat} {L : List NdI} (h : TS w0 a len cap g C wk W gv cp L) (o : Obj) : TS w0 a len cap g C wk (W.alloc o) gv cp L :=
  ⟨h.dn.alloc o, (Below.heap_alloc W o C (row_ltT h.row)).trans h.row, h.nev, h.neg⟩
theorem TS.set {w0 wk : World} {a : Option Addr} {len cap g C : Nat} {W : World} {gv cp : Nat} {L : List NdI} (h : TS w0 a len cap g C wk W gv cp L) (B t : Nat) (u : Value) (h1 : B ≠ g) (h2 : wk.heap.size ≤ B) (h3 : gv ≠ B) (h4 : C ≠ B) : TS w0 a len cap g C wk (W.setCell ⟨B, t, none⟩ u) gv cp L :=
  ⟨h.dn.set B t u h1 h2 (fun c => h3 (Option.some.inj c)), (heap_setCell_other _ _ _ _ h4).trans h.row, h.nev, h.neg⟩
theorem TS.gvlt {w0 wk : World} {a : Option Addr} {len cap g C : Nat} {W : World} {gv cp : Nat} {L : List NdI} (h : TS w0 a len cap g C wk W gv cp L) : gv < W.heap.size := (h.dn.own.lt gv rfl).2
theorem TS.app {w0 wk : World} {a : Option Addr} {len cap g C : Nat} {W W' : World} {gv cp g' c' : Nat} {L : List NdI} {p : NdI} (h : TS w0 a len cap g C wk W gv cp L) (hp : p.p.size ≤ 100 ∧ p.d.size ≤ 600) (ho : W'.ownsRow wk.heap.size 32 4 (.slice (some ⟨g', 0, none⟩) (L.length + 1) c') (L.length + 1) (ndC L ++ [.string p.p, .bool p.r, .int .i64 p.m, .string p.d])) (hg : W.grownBy W' (some gv)) (hf : g' = gv ∨ W.heap.size ≤ g') : TS w0 a len cap g C wk W' g' c' (L ++ [p]) := by
  have ho2 := ho
  rw [ndC_snoc] at ho2
  have e : (L ++ [p]).length = L.length + 1 := by simp
  refine ⟨h.dn.grown hp hg (by rw [e]; exact ho2) |> fun x => by rw [e]; exact x, (hg.block C (row_ltT h.row) (fun c => h.nev (Option.some.inj c).symm)).trans h.row, ?_, h.neg⟩
  rcases hf with rfl | hf
  · exact h.nev
  · have := row_ltT h.row; omega
set_option maxRecDepth 100000 in
set_option maxHeartbeats 4000000 in
theorem tree_kept {w0 : World} {a : Option Addr} {len cap g : Nat} {W : World} (hS : Src w0 a len) (h : RD w0 a len cap g W) :
    Calls Tryd.prog 19 #[.pointer (some ⟨g, 0, none⟩)] W fun e w' => ∃ (v : Value) (L : List NdI), L.length ≤ 10 ∧ e = .returned v ∧ DN w0 a len cap g W w' v L := by
  obtain ⟨i0, hi, hz0, hz1, hz2⟩ := info_parts Tryd.infNd
  have hgl := h.lt
  obtain ⟨C, hC⟩ : ∃ C, C = W.heap.size + 1 := ⟨_, rfl⟩
  obtain ⟨W2, hW2⟩ : ∃ W2, W2 = (W.alloc (.cells #[] 32)).alloc (.cells trVals 32) := ⟨_, rfl⟩
  have HT0 : Hid (TS w0 a len cap g C W W2 W.heap.size 0 []) := by
    have hown0 := World.ownsRow_made (e := 32) (size := 4) W #[] 0 (Nat.le_refl _) (by unfold maxLen; omega) rfl
    have hd : DN w0 a len cap g W (W.alloc (.cells #[] 32)) (.slice (some ⟨W.heap.size, 0, none⟩) 0 0) [] := ⟨h.alloc _, h.below.size, World.grownBy_alloc _ _ _, hown0, fun p hp => by cases hp⟩
    rw [hW2, hC]
    exact ⟨hd.alloc _, by have h := heap_alloc_new (W.alloc (.cells #[] 32)) (.cells trVals 32); simpa using h, by omega, by omega⟩
  have HW2 := hid hW2
  have HS := hid hS
  have HCC : Hid (C = W.heap.size + 1) := hC
  unfold trVals at HW2
  clear hW2 h hS hC hgl
  go_enter Tryd.func19, Tryd.ntmps19
  go_wp2_with fail
  try rw [← HW2.out]
  try rw [← HCC.out]
  generalize W.heap.size = gv0 at HT0 ⊢
  go_loopw [3, 5] (fun v t wr => ∃ (i gv cp : Nat) (L : List NdI), i ≤ 9 ∧ L.length ≤ i ∧ v = .slice (some ⟨gv, 0, none⟩) L.length cp ∧ t = .int .i64 (i : Int) ∧ Hid (TS w0 a len cap g C W wr gv cp L)) (fun _ t _ => 9 - (intTr t).toNat)
  case atStart => exact ⟨0, _, _, [], by omega, by simp, rfl, rfl, HT0⟩
  case round =>
    clear HT0 HW2 HCC
    obtain ⟨i, gv, cp, L, hi9, hLi, rfl, rfl, HT⟩ := hrel
    by_cases hlt : i < 9
    · have hltI : (i : Int) < 9 := by omega
      obtain ⟨s, r, hs, t0, t1, t2, t3⟩ := trVals_at i hlt
      obtain ⟨q, hq⟩ : ∃ q, q = 4 * i := ⟨_, rfl⟩
      rw [← hq] at t0 t1 t2 t3
      have hiq : i * 4 = q := by omega
      have x0 := (cell_of_row wr C q _ _ _ HT.out.row).trans t0
      have x1 := (cell_of_row wr C (q + 1) _ _ _ HT.out.row).trans t1
      have x2 := (cell_of_row wr C (q + 2) _ _ _ HT.out.row).trans t2
      have x3 := (cell_of_row wr C (q + 3) _ _ _ HT.out.row).trans t3
      clear t0 t1 t2 t3 hq
      obtain ⟨wa, hwa⟩ : ∃ wa, wa = (wr.alloc (.cells #[.string s, .bool r, .int .i64 0, .string ⟨#[]⟩] 32)).alloc (.cells mdVals 2) := ⟨_, rfl⟩
      obtain ⟨B, hB⟩ : ∃ B, B = wr.heap.size := ⟨_, rfl⟩
      have hCl := row_ltT HT.out.row
      have hgl := HT.out.dn.rd.lt
      have hvl := HT.out.gvlt
      have HTa : Hid (TS w0 a len cap g C W wa gv cp L) := by rw [hwa]; exact (HT.out.alloc _).alloc _
      have HBa : Hid (wa.heap[B]? = some (.cells #[.string s, .bool r, .int .i64 0, .string ⟨#[]⟩] 32 (0, 0))) := by
        rw [hwa, hB]; exact (Below.heap_alloc _ _ _ (by simp)).trans (heap_alloc_new wr _)
      have HIa : Hid (wa.heap[B + 1]? = some (.cells mdVals 2 (0, 0))) := hid <| by
        have h := heap_alloc_new (wr.alloc (.cells #[.string s, .bool r, .int .i64 0, .string ⟨#[]⟩] 32)) (.cells mdVals 2)
        rw [hwa, hB]; simpa using h
      have HNE : Hid (B ≠ g ∧ B + 1 ≠ g ∧ W.heap.size ≤ B ∧ gv ≠ B ∧ C ≠ B) := ⟨by omega, by omega, by rw [hB]; exact HT.out.dn.gr.size, by omega, by omega⟩
      have HWA := hid hwa
      unfold mdVals at HWA
      have HBB : Hid (B = wr.heap.size) := hB
      clear hwa hB hCl hgl hvl HT
      go_wp2_with fail
      try rw [← HWA.out]
      try rw [← HBB.out]
      refine (below_any HS.out HTa.out.dn.rd 4 (by omega) (by omega)).mono ?_
      rintro e w2 ⟨⟨x, hx1, hx2, rfl⟩, hr2⟩
      obtain ⟨k, rfl⟩ := Int.eq_ofNat_of_zero_le hx1
      obtain ⟨m, hmk⟩ := mdVals_at k (by omega)
      have xk := (cell_of_row w2 (B + 1) k _ _ _ ((hr2.grown.block _ (row_ltT HIa.out) (fun e => HNE.out.2.1 (Option.some.inj e))).trans HIa.out)).trans hmk
      have hb2 := (hr2.grown.block _ (row_ltT HBa.out) (fun e => HNE.out.1 (Option.some.inj e))).trans HBa.out
      have HT2 := hid ((HTa.out.rd3 hr2).set B 2 (.int .i64 m) HNE.out.1 HNE.out.2.2.1 HNE.out.2.2.2.1 HNE.out.2.2.2.2)
      have y1 := cell_of_row w2 B 1 _ _ _ hb2
      have y2 := cell_of_row w2 B 2 _ _ _ hb2
      have u2 := frozen_of_row w2 B 2 _ _ hb2
      simp only [List.getElem?_toArray, List.getElem?_cons_zero, List.getElem?_cons_succ] at y1 y2
      have HBs := hid (heap_setCell_same w2 B 2 _ 32 (.int .i64 m) hb2)
      clear hmk hr2 hb2 HTa HBa HIa HWA x0 x1 x2 x3 hx1
      have c1 := cell_of_row _ B 1 _ _ _ HBs.out
      simp only [List.setIfInBounds_toArray, List.set_cons_zero, List.set_cons_succ, List.getElem?_toArray, List.getElem?_cons_zero, List.getElem?_cons_succ] at c1
      cases r with
      | true =>
        have c0 := cell_of_row _ B 0 _ _ _ HBs.out
        simp only [List.setIfInBounds_toArray, List.set_cons_zero, List.set_cons_succ, List.getElem?_toArray, List.getElem?_cons_zero, List.getElem?_cons_succ] at c0
        go_wp2_with fail
        refine (sparent_any s _ (by omega)).mono ?_
        rintro e w4 ⟨rfl, hw4⟩
        subst w4
        go_wp2_with fail
        refine (once_any HS.out HT2.out.dn.rd 3 (by omega) (by omega)).mono ?_
        rintro e w5 ⟨⟨x, rfl⟩, hr5⟩
        have HT5 := hid (HT2.out.rd3 hr5)
        have hb5 := (hr5.grown.block _ (row_ltT HBs.out) (fun e => HNE.out.1 (Option.some.inj e))).trans HBs.out
        simp only [List.setIfInBounds_toArray, List.set_cons_zero, List.set_cons_succ] at hb5
        have c0 := cell_of_row w5 B 0 _ _ _ hb5
        have c1 := cell_of_row w5 B 1 _ _ _ hb5
        have c2 := cell_of_row w5 B 2 _ _ _ hb5
        have c3 := cell_of_row w5 B 3 _ _ _ hb5
        simp only [List.getElem?_toArray, List.getElem?_cons_zero, List.getElem?_cons_succ] at c0 c1 c2 c3
        have HAT : Hid (∀ s', ∀ w, w = w5 → Calls Tryd.prog 30 #[.slice (some ⟨gv, 0, none⟩) L.length cp, .string s'] w fun e w' => (∃ x : Int, e = .returned (.int .i64 x)) ∧ w' = w5) := fun s' w hw => by
          subst w
          obtain ⟨a', c', he, hr'⟩ := own4_arg HT5.out.dn.own
          cases he
          refine (sat_any _ _ L.length (ndF L) s' w5 (by omega) hr').mono ?_
          rintro e w6 ⟨⟨x, h1, _⟩, h2⟩
          exact ⟨⟨x, h1⟩, h2⟩
        clear hr5 hb5 HT2 HBs
        generalize parB s = P
        cases x with
        | true =>
          go_wp2_with fail
          go_roundw
          case rel => exact ⟨i + 1, _, _, _, by omega, by omega, rfl, by go_num, HT5⟩
          case measure => simp [intTr]; omega
        | false =>
          by_cases hP : P = ⟨#[]⟩
          · subst hP
            have HTX := hid (HT5.out.alloc (.cells #[.string s, .bool true, .int .i64 m, .string ⟨#[]⟩] 32))
            have HSZ : Hid (w5.heap.size = w5.heap.size) := rfl
            have hBsz := HTX.out.dn.gr.size
            go_wp2_with (at_builtin; (refine wpList_append_fr _ rfl _ _ 24 rfl W.heap.size 32 i0 (.agg #[.string ⟨#[]⟩, .bool false, .int .i64 0, .string ⟨#[]⟩]) 4 48 Tryd.underlying24 hi hz0 hz1 hz2 rfl (by decide) gv cp L.length _ rfl HTX.out.dn.own ⟨w5.heap.size, 0, none⟩ 1 1 [.string s, .bool true, .int .i64 m, .string ⟨#[]⟩] rfl rfl (cell_four_at rfl) ?k2 ?k3 ?k4 ?k5 ?_))
            case k2 => exact four_one _ _ _ _
            case k3 => unfold maxLen; omega
            case k4 => omega
            case k5 => exact hBsz
            intro g' c' w9 hown' hgrow hfr
            have HT9 := hid (TS.app (p := ⟨s, true, m, ⟨#[]⟩⟩) HTX.out ⟨by show s.size ≤ 100; omega, by show (⟨#[]⟩ : ByteArray).size ≤ 600; exact Nat.zero_le _⟩ hown' hgrow (by rw [World.size_alloc]; exact hfr))
            clear hown' hgrow hfr HTX
            go_wp2_with fail
            go_roundw
            case rel => exact ⟨i + 1, _, _, _, by omega, by simp; omega, by simp, by go_num, HT9⟩
            case measure => simp [intTr]; omega
          · have hPe := d_neR hP
            clear hP
            go_wp2_with fail
            refine (HAT.out P _ rfl).mono ?_
            rintro e w6 ⟨⟨z, rfl⟩, hw6⟩
            subst w6
            by_cases hz : z < 0
            · go_wp2_with fail
              go_roundw
              case rel => exact ⟨i + 1, _, _, _, by omega, by omega, rfl, by go_num, HT5⟩
              case measure => simp [intTr]; omega
            · skip
              have HTX := hid (HT5.out.alloc (.cells #[.string s, .bool true, .int .i64 m, .string ⟨#[]⟩] 32))
              have HSZ : Hid (w5.heap.size = w5.heap.size) := rfl
              have hBsz := HTX.out.dn.gr.size
              go_wp2_with (at_builtin; (refine wpList_append_fr _ rfl _ _ 24 rfl W.heap.size 32 i0 (.agg #[.string ⟨#[]⟩, .bool false, .int .i64 0, .string ⟨#[]⟩]) 4 48 Tryd.underlying24 hi hz0 hz1 hz2 rfl (by decide) gv cp L.length _ rfl HTX.out.dn.own ⟨w5.heap.size, 0, none⟩ 1 1 [.string s, .bool true, .int .i64 m, .string ⟨#[]⟩] rfl rfl (cell_four_at rfl) ?k2 ?k3 ?k4 ?k5 ?_))
              case k2 => exact four_one _ _ _ _
              case k3 => unfold maxLen; omega
              case k4 => omega
              case k5 => exact hBsz
              intro g' c' w9 hown' hgrow hfr
              have HT9 := hid (TS.app (p := ⟨s, true, m, ⟨#[]⟩⟩) HTX.out ⟨by show s.size ≤ 100; omega, by show (⟨#[]⟩ : ByteArray).size ≤ 600; exact Nat.zero_le _⟩ hown' hgrow (by rw [World.size_alloc]; exact hfr))
              clear hown' hgrow hfr HTX
              go_wp2_with fail
              go_roundw
              case rel => exact ⟨i + 1, _, _, _, by omega, by simp; omega, by simp, by go_num, HT9⟩
              case measure => simp [intTr]; omega
      | false =>
        go_wp2_with fail
        refine (data_any HS.out HT2.out.dn.rd 4 (by omega) (by omega)).mono ?_
        rintro e w3 ⟨⟨d, hd, rfl⟩, hr3⟩
        have hb3 := (hr3.grown.block _ (row_ltT HBs.out) (fun e => HNE.out.1 (Option.some.inj e))).trans HBs.out
        simp only [List.setIfInBounds_toArray, List.set_cons_zero, List.set_cons_succ] at hb3
        have HT3 := hid ((HT2.out.rd3 hr3).set B 3 (.string d) HNE.out.1 HNE.out.2.2.1 HNE.out.2.2.2.1 HNE.out.2.2.2.2)
        have y3 := cell_of_row w3 B 3 _ _ _ hb3
        have u3 := frozen_of_row w3 B 3 _ _ hb3
        simp only [List.getElem?_toArray, List.getElem?_cons_zero, List.getElem?_cons_succ] at y3
        have HBt := hid (heap_setCell_same w3 B 3 _ 32 (.string d) hb3)
        clear hr3 hb3 HT2 HBs c1
        have c0 := cell_of_row _ B 0 _ _ _ HBt.out
        simp only [List.setIfInBounds_toArray, List.set_cons_zero, List.set_cons_succ, List.getElem?_toArray, List.getElem?_cons_zero, List.getElem?_cons_succ] at c0
        go_wp2_with fail
        refine (sparent_any s _ (by omega)).mono ?_
        rintro e w4 ⟨rfl, hw4⟩
        subst w4
        go_wp2_with fail
        refine (once_any HS.out HT3.out.dn.rd 3 (by omega) (by omega)).mono ?_
        rintro e w5 ⟨⟨x, rfl⟩, hr5⟩
        have HT5 := hid (HT3.out.rd3 hr5)
        have hb5 := (hr5.grown.block _ (row_ltT HBt.out) (fun e => HNE.out.1 (Option.some.inj e))).trans HBt.out
        simp only [List.setIfInBounds_toArray, List.set_cons_zero, List.set_cons_succ] at hb5
        have c0 := cell_of_row w5 B 0 _ _ _ hb5
        have c1 := cell_of_row w5 B 1 _ _ _ hb5
        have c2 := cell_of_row w5 B 2 _ _ _ hb5
        have c3 := cell_of_row w5 B 3 _ _ _ hb5
        simp only [List.getElem?_toArray, List.getElem?_cons_zero, List.getElem?_cons_succ] at c0 c1 c2 c3
        have HAT : Hid (∀ s', ∀ w, w = w5 → Calls Tryd.prog 30 #[.slice (some ⟨gv, 0, none⟩) L.length cp, .string s'] w fun e w' => (∃ x : Int, e = .returned (.int .i64 x)) ∧ w' = w5) := fun s' w hw => by
          subst w
          obtain ⟨a', c', he, hr'⟩ := own4_arg HT5.out.dn.own
          cases he
          refine (sat_any _ _ L.length (ndF L) s' w5 (by omega) hr').mono ?_
          rintro e w6 ⟨⟨x, h1, _⟩, h2⟩
          exact ⟨⟨x, h1⟩, h2⟩
        clear hr5 hb5 HT3 HBt
        generalize parB s = P
        cases x with
        | true =>
          go_wp2_with fail
          go_roundw
          case rel => exact ⟨i + 1, _, _, _, by omega, by omega, rfl, by go_num, HT5⟩
          case measure => simp [intTr]; omega
        | false =>
          by_cases hP : P = ⟨#[]⟩
          · subst hP
            have HTX := hid (HT5.out.alloc (.cells #[.string s, .bool false, .int .i64 m, .string d] 32))
            have HSZ : Hid (w5.heap.size = w5.heap.size) := rfl
            have hBsz := HTX.out.dn.gr.size
            go_wp2_with (at_builtin; (refine wpList_append_fr _ rfl _ _ 24 rfl W.heap.size 32 i0 (.agg #[.string ⟨#[]⟩, .bool false, .int .i64 0, .string ⟨#[]⟩]) 4 48 Tryd.underlying24 hi hz0 hz1 hz2 rfl (by decide) gv cp L.length _ rfl HTX.out.dn.own ⟨w5.heap.size, 0, none⟩ 1 1 [.string s, .bool false, .int .i64 m, .string d] rfl rfl (cell_four_at rfl) ?k2 ?k3 ?k4 ?k5 ?_))
            case k2 => exact four_one _ _ _ _
            case k3 => unfold maxLen; omega
            case k4 => omega
            case k5 => exact hBsz
            intro g' c' w9 hown' hgrow hfr
            have HT9 := hid (TS.app (p := ⟨s, false, m, d⟩) HTX.out ⟨by show s.size ≤ 100; omega, by show d.size ≤ 600; omega⟩ hown' hgrow (by rw [World.size_alloc]; exact hfr))
            clear hown' hgrow hfr HTX
            go_wp2_with fail
            go_roundw
            case rel => exact ⟨i + 1, _, _, _, by omega, by simp; omega, by simp, by go_num, HT9⟩
            case measure => simp [intTr]; omega
          · have hPe := d_neR hP
            clear hP
            go_wp2_with fail
            refine (HAT.out P _ rfl).mono ?_
            rintro e w6 ⟨⟨z, rfl⟩, hw6⟩
            subst w6
            by_cases hz : z < 0
            · go_wp2_with fail
              go_roundw
              case rel => exact ⟨i + 1, _, _, _, by omega, by omega, rfl, by go_num, HT5⟩
              case measure => simp [intTr]; omega
            · skip
              have HTX := hid (HT5.out.alloc (.cells #[.string s, .bool false, .int .i64 m, .string d] 32))
              have HSZ : Hid (w5.heap.size = w5.heap.size) := rfl
              have hBsz := HTX.out.dn.gr.size
              go_wp2_with (at_builtin; (refine wpList_append_fr _ rfl _ _ 24 rfl W.heap.size 32 i0 (.agg #[.string ⟨#[]⟩, .bool false, .int .i64 0, .string ⟨#[]⟩]) 4 48 Tryd.underlying24 hi hz0 hz1 hz2 rfl (by decide) gv cp L.length _ rfl HTX.out.dn.own ⟨w5.heap.size, 0, none⟩ 1 1 [.string s, .bool false, .int .i64 m, .string d] rfl rfl (cell_four_at rfl) ?k2 ?k3 ?k4 ?k5 ?_))
              case k2 => exact four_one _ _ _ _
              case k3 => unfold maxLen; omega
              case k4 => omega
              case k5 => exact hBsz
              intro g' c' w9 hown' hgrow hfr
              have HT9 := hid (TS.app (p := ⟨s, false, m, d⟩) HTX.out ⟨by show s.size ≤ 100; omega, by show d.size ≤ 600; omega⟩ hown' hgrow (by rw [World.size_alloc]; exact hfr))
              clear hown' hgrow hfr HTX
              go_wp2_with fail
              go_roundw
              case rel => exact ⟨i + 1, _, _, _, by omega, by simp; omega, by simp, by go_num, HT9⟩
              case measure => simp [intTr]; omega
    · obtain rfl : i = 9 := by omega
      go_wp2_with fail
      refine (once_any HS.out HT.out.dn.rd 24 (by omega) (by omega)).mono ?_
      rintro e w2 ⟨⟨x, rfl⟩, hr2⟩
      have HT2 := hid (HT.out.rd3 hr2)
      clear hr2 HT
      cases x with
      | false =>
        go_wp2_with fail
        go_ret
        exact ⟨_, L, by omega, rfl, HT2.out.dn⟩
      | true =>
        go_wp2_with fail
        refine (path_any HS.out HT2.out.dn.rd).mono ?_
        rintro e w3 ⟨⟨s, hs, rfl⟩, hr3⟩
        have HT3 := hid (HT2.out.rd3 hr3)
        clear hr3 HT2
        go_wp2_with fail
        refine (off_any HS.out HT3.out.dn.rd 0 511 (by omega) (by omega) (by omega)).mono ?_
        rintro e w5 ⟨⟨m, _, _, rfl⟩, hr5⟩
        have HT5 := hid (HT3.out.rd3 hr5)
        clear hr5 HT3
        have HTX := hid (HT5.out.alloc (.cells #[.string s, .bool false, .int .i64 m, .string ⟨#[]⟩] 32))
        have HSZ : Hid (w5.heap.size = w5.heap.size) := rfl
        have hBsz := HTX.out.dn.gr.size
        go_wp2_with (at_builtin; (refine wpList_append_fr _ rfl _ _ 24 rfl W.heap.size 32 i0 (.agg #[.string ⟨#[]⟩, .bool false, .int .i64 0, .string ⟨#[]⟩]) 4 48 Tryd.underlying24 hi hz0 hz1 hz2 rfl (by decide) gv cp L.length _ rfl HTX.out.dn.own ⟨w5.heap.size, 0, none⟩ 1 1 [.string s, .bool false, .int .i64 m, .string ⟨#[]⟩] rfl rfl (cell_four_at rfl) ?k2 ?k3 ?k4 ?k5 ?_))
        case k2 => exact four_one _ _ _ _
        case k3 => unfold maxLen; omega
        case k4 => omega
        case k5 => exact hBsz
        intro g' c' w9 hown' hgrow hfr
        have HT9 := hid (TS.app (p := ⟨s, false, m, ⟨#[]⟩⟩) HTX.out ⟨by show s.size ≤ 100; omega, by show (⟨#[]⟩ : ByteArray).size ≤ 600; exact Nat.zero_le _⟩ hown' hgrow (by rw [World.size_alloc]; exact hfr))
        clear hown' hgrow hfr HTX
        go_wp2_with fail
        go_ret
        exact ⟨_, L ++ [⟨s, false, m, ⟨#[]⟩⟩], by simp; omega, rfl, by have h := HT9.out.dn; simpa using h⟩
theorem ndF_sz (L : List NdI) (h : ∀ p ∈ L, p.p.size ≤ 100 ∧ p.d.size ≤ 600) {i : Nat} (hi : i < L.length) : (ndF L i).p.size ≤ 100 ∧ (ndF L i).d.size ≤ 600 := by
  have e : ndF L i = L[i] := by unfold ndF; simp [hi]
  rw [e]
  exact h _ (List.getElem_mem hi)
theorem ndTot_sz (F : Nat → NdI) : ∀ n : Nat, (∀ i, i < n → (F i).p.size ≤ 100 ∧ (F i).d.size ≤ 600) → ndTot F n ≤ 700 * n
  | 0, _ => Nat.le_refl _
  | n + 1, h => by
    have h1 := ndTot_sz F n (fun i hi => h i (by omega))
    have h2 := h n (by omega)
    show ndTot F n + ((F n).p.size + (F n).d.size) ≤ _
    omega
theorem ndF_leD (L : List NdI) (hL : L.length ≤ 10) (h : ∀ p ∈ L, p.p.size ≤ 100 ∧ p.d.size ≤ 600) : NdLe (ndF L) L.length := by
  have := ndTot_sz (ndF L) L.length (fun i hi => ndF_sz L h hi)
  exact ⟨by omega, by omega⟩
end Go.Proofs.YtbmcjoaigajjkaaDoor
