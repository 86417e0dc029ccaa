/-
  What the law of added versions is drawn of.
-/
import Derived.Test.YtpeddaljgmkomaaPk29
import Derived.Test.YtpeddaljgmkomaaDrwO4
namespace Go.Proofs.Ytpeddaljgmkomaa
open Go.RowKit
set_option linter.unusedVariables false
set_option linter.unusedSimpArgs false
set_option maxRecDepth 100000 in
set_option maxHeartbeats 2000000 in
theorem drawAdd {w0 : World} {a : Option Addr} {len cap : Nat} {W : World} (hS : Src w0 a len) (hb : Below w0.heap.size w0 W) :
    Calls Try.prog 33 #[.slice a len cap] W fun e w' => (∃ (v : Value) (L : List LkI) (s : ByteArray) (k : Int), L.length ≤ 9 ∧ LkLe L ∧ s.size ≤ 4000 ∧ (Lit.int .i64 k).wf = true ∧ e = .returned (.tuple #[v, .string s, .int .i64 k]) ∧ ∃ bs, Hd w' (lksD L) v bs) ∧ Below w0.heap.size w0 w' := by
  go_enter Try.func33, Try.ntmps33
  go_wp2_with fail
  refine (open_any hb).mono ?_
  rintro e w1 ⟨rfl, hr, _⟩
  generalize W.heap.size = g at hr ⊢
  go_wp2_with fail
  refine (chain_drawn hS hr).mono ?_
  rintro e w2 ⟨v, L, hL, rfl, hd⟩
  obtain ⟨b, c, rfl⟩ := hd.form
  obtain ⟨bs, hh⟩ := hd.hd
  have HSV : Hid (Calls Try.prog 38 #[.slice b L.length c] w2 fun e w' => SvPost w2 (vAll L) e w') := sv_any _ L bs w2 hd.le hh
  obtain ⟨n, hn⟩ : ∃ n, n = L.length := ⟨_, rfl⟩
  rw [← hn] at hd hL HSV ⊢
  have HD := dhid hd
  have HN := dhid hn
  have hw1 : IntKind.i64.wrap ((n : Int) - 1) = (n : Int) - 1 := by rw [IntKind.wrap_i64]; omega
  clear hd hn hr hb hh
  go_wp2_with fail
  refine HSV.out.mono ?_
  rintro e w3 ⟨hpost, hb3⟩
  have HD3 := dhid (HD.out.under hb3)
  have HG2 : Hid (g < w2.heap.size) := HD.out.rd.lt
  clear hb3 HSV HD
  cases hA : vAll L with
  | none =>
    rw [hA] at hpost
    have hpost2 : e = .returned (.tuple #[.slice none 0 0, .bool false]) := hpost
    subst hpost2
    clear hA hpost
    go_wp2_with fail
    refine (data_any hS HD3.out.rd 6 (by omega) (by omega)).mono ?_
    rintro e w4 ⟨⟨s, hs, rfl⟩, hr4⟩
    have HD4 := dhid (HD3.out.rd3 hr4)
    clear hr4 HD3
    go_wp2_with fail
    refine (off_anyN hS HD4.out.rd (-1) ((n : Int) - 1) (by omega) (by omega) (by omega)).mono ?_
    rintro e w5 ⟨⟨x, hx1, hx2, rfl⟩, hr5⟩
    have HD5 := dhid (HD4.out.rd3 hr5)
    clear hr5 HD4
    go_wp2_with fail
    go_ret3
    exact ⟨⟨_, L, s, x, by rw [← HN.out]; exact hL, HD5.out.le, by omega, Go.WalkArith.wf_i64 ⟨hx1, hx2⟩, rfl, HD5.out.hd⟩, HD5.out.rd.below⟩
  | some V =>
    rw [hA] at hpost
    obtain ⟨xv, rfl, hm⟩ := hpost
    have hVl := (vAll_some hA).2.2
    rw [← HN.out] at hVl
    have HVB := dhid (vF_bd (vAll_some hA).2.1)
    obtain ⟨xa, xn, xc, rfl⟩ : ∃ xa xn xc, xv = .slice xa xn xc := own_sliceA hm
    by_cases h0 : n = 0
    · have hxn : xn = 0 := by
        obtain ⟨_, ⟨h1, _⟩ | ⟨g1, cap, cur, h1, _⟩⟩ := hm
        · injection h1
        · injection h1 with _ h1 _; omega
      subst hxn
      subst h0
      clear hA hm hVl
      go_wp2_with fail
      refine (data_any hS HD3.out.rd 6 (by omega) (by omega)).mono ?_
      rintro e w4 ⟨⟨s, hs, rfl⟩, hr4⟩
      have HD4 := dhid (HD3.out.rd3 hr4)
      clear hr4 HD3
      go_wp2_with fail
      refine (off_anyN hS HD4.out.rd (-1) (-1) (by omega) (by omega) (by omega)).mono ?_
      rintro e w5 ⟨⟨x, hx1, hx2, rfl⟩, hr5⟩
      have HD5 := dhid (HD4.out.rd3 hr5)
      clear hr5 HD4
      go_wp2_with fail
      go_ret3
      exact ⟨⟨_, L, s, x, by rw [← HN.out]; exact hL, HD5.out.le, by omega, Go.WalkArith.wf_i64 ⟨hx1, hx2⟩, rfl, HD5.out.hd⟩, HD5.out.rd.below⟩
    · have hlow := hm.lt
      obtain ⟨g1, k1, hxe, hg1, hc1⟩ := owns1_at hm (by omega)
      injection hxe with e1 e2 e3
      subst e1
      rw [hVl] at e2
      have e4 := e2.symm
      subst e4
      obtain ⟨j, hj⟩ : ∃ j, j = n - 1 := ⟨_, rfl⟩
      have ho := List.getElem?_eq_getElem (l := V) (i := j) (by omega)
      have hob := HVB.out _ (List.mem_of_getElem? ho)
      generalize V[j]'_ = o at ho hob
      have hy1 := hc1 _ _ (vtC_at ho)
      have hgn : g1 ≠ g := by have := hlow g1 rfl; have := HG2.out; omega
      have HY := dhid hy1
      have HGN := dhid hgn
      have HG1 := dhid hg1
      obtain ⟨ot, od⟩ := o
      simp only at HY hob
      have hot := hob.1
      have hjI : (n : Int) - 1 = (j : Int) := by omega
      have hjn : (j : Int) < (n : Int) := by omega
      have hnI : (0 : Int) < (n : Int) := by omega
      clear hA hm hVl hlow hc1 ho hy1 hgn hob hg1 hj
      go_wp2_with fail
      refine (data_any hS HD3.out.rd 6 (by omega) (by omega)).mono ?_
      rintro e w4 ⟨⟨s, hs, rfl⟩, hr4⟩
      have HD4 := dhid (HD3.out.rd3 hr4)
      have HR4 := dhid hr4.grown
      clear hr4 HD3
      go_wp2_with fail
      refine (once_any hS HD4.out.rd 3 (by omega) (by omega)).mono ?_
      rintro e w5 ⟨⟨x, rfl⟩, hr5⟩
      have HD5 := dhid (HD4.out.rd3 hr5)
      have HR5 := dhid (HR4.out.trans hr5.grown)
      clear hr5 HD4 HR4
      cases x with
      | true =>
        go_wp2_with fail
        refine (off_anyN hS HD5.out.rd (-1) (j : Int) (by omega) (by omega) (by omega)).mono ?_
        rintro e w6 ⟨⟨x, hx1, hx2, rfl⟩, hr6⟩
        have HD6 := dhid (HD5.out.rd3 hr6)
        clear hr6 HD5
        go_wp2_with fail
        go_ret3
        exact ⟨⟨_, L, s, x, by rw [← HN.out]; exact hL, HD6.out.le, by omega, Go.WalkArith.wf_i64 ⟨hx1, hx2⟩, rfl, HD6.out.hd⟩, HD6.out.rd.below⟩
      | false =>
        have y1 : w5.cell? ⟨g1, j, none⟩ = some (.string ot) := HR5.out.cell (a := ⟨g1, j, none⟩) HY.out (fun c => HGN.out (by injection c))
        go_wp2_with fail
        refine (other_big hS HD5.out.rd ot hot).mono ?_
        rintro e w6 ⟨⟨s', hs', rfl⟩, hr6⟩
        have HD6 := dhid (HD5.out.rd3 hr6)
        clear hr6 HD5 y1
        go_wp2_with fail
        refine (off_anyN hS HD6.out.rd (-1) (j : Int) (by omega) (by omega) (by omega)).mono ?_
        rintro e w7 ⟨⟨x, hx1, hx2, rfl⟩, hr7⟩
        have HD7 := dhid (HD6.out.rd3 hr7)
        clear hr7 HD6
        go_wp2_with fail
        go_ret3
        exact ⟨⟨_, L, s', x, by rw [← HN.out]; exact hL, HD7.out.le, hs', Go.WalkArith.wf_i64 ⟨hx1, hx2⟩, rfl, HD7.out.hd⟩, HD7.out.rd.below⟩
end Go.Proofs.Ytpeddaljgmkomaa
