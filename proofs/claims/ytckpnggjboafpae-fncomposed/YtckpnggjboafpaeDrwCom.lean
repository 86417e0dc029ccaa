/-
  What the law of composed deltas is drawn of.
-/
import Derived.Test.YtckpnggjboafpaeDrwPcs2
namespace Go.Proofs.Ytckpnggjboafpae
open Go.RowKit
set_option linter.unusedVariables false
set_option linter.unusedSimpArgs false
theorem DW.past {w0 : World} {a : Option Addr} {len cap g : Nat} {W0 W W' : World} {v : Value} {L : List PcI} (h : DW w0 a len cap g W0 W v L) (hb : Below W.heap.size W W') : DW w0 a len cap g W0 W' v L :=
  ⟨h.gl, ⟨h.r3.rd.past hb, ⟨hb.os.trans h.r3.grown.os, hb.tape.trans h.r3.grown.tape, hb.output.trans h.r3.grown.output, Nat.le_trans h.r3.grown.size hb.size, fun k hk hne => (hb.block k (Nat.lt_of_lt_of_le hk h.r3.grown.size)).trans (h.r3.grown.block k hk hne)⟩⟩, own3_call h.own hb, h.sz⟩
theorem wrap_in (x : Int) : -9223372036854775808 ≤ wrap64 x ∧ wrap64 x ≤ 9223372036854775807 := by unfold wrap64; omega
set_option maxRecDepth 100000 in
set_option maxHeartbeats 2000000 in
theorem drawCompose {w0 : World} {a : Option Addr} {len cap : Nat} {W : World} (hS : Src w0 a len) (hb : Below w0.heap.size w0 W) :
    Calls Try.prog 6 #[.slice a len cap] W fun e w' => (∃ (va vb : Value) (La Lb : List PcI), La.length ≤ 7 ∧ Lb.length ≤ 7 ∧ (∀ p ∈ La, p.d.size ≤ 5) ∧ (∀ p ∈ Lb, p.d.size ≤ 5) ∧ e = .returned (.tuple #[va, vb]) ∧ w'.ownsRow w0.heap.size 43 3 va La.length (pcC La) ∧ w'.ownsRow w0.heap.size 43 3 vb Lb.length (pcC Lb)) ∧ Below w0.heap.size w0 w' := by
  have HLG : Hid (∀ p w, Calls Try.prog 21 #[pcV p.f p.l p.d] w fun e w' => e = .returned (.int .i64 (pcSz p)) ∧ Below w.heap.size w w') := fun p w => slong_any p w
  unfold pcV at HLG
  go_enter Try.func6, Try.ntmps6
  go_wp2_with fail
  refine (open_any hb).mono ?_
  rintro e w1 ⟨rfl, hr, _⟩
  generalize W.heap.size = g at hr ⊢
  have HR1 := hid hr
  clear hr hb
  go_wp2_with fail
  refine (below_any hS HR1.out 40 (by omega) (by omega)).mono ?_
  rintro e w2 ⟨⟨x, hx1, hx2, rfl⟩, hr2⟩
  have HR2 := hid hr2.rd
  clear hr2 HR1
  go_wp2_with fail
  refine (pieces_kept hS HR2.out x (by omega) (by omega)).mono ?_
  rintro e w3 ⟨v, L, hL, rfl, hd⟩
  have HD3 := hid hd
  clear hd hx1 hx2
  obtain ⟨sa, sc, rfl⟩ := own3_slice HD3.out.own
  generalize hn : L.length = n at hL ⊢
  have HNL := hid hn
  clear hn
  go_wp2_with fail
  go_loopw [6, 7] (fun s t wr => ∃ (i : Nat) (X : Int), i ≤ n ∧ t = .int .i64 (i : Int) ∧ s = .int .i64 X ∧ (-9223372036854775808 ≤ X ∧ X ≤ 9223372036854775807) ∧ Hid (DW w0 a len cap g w2 wr (.slice sa n sc) L)) (fun _ t _ => n - (intN t).toNat)
  case atStart => exact ⟨0, 0, by omega, rfl, rfl, by omega, by have := HD3.out; rw [HNL.out] at this; exact this⟩
  case round =>
    clear HD3
    obtain ⟨i, X, hi, rfl, rfl, hX, HD⟩ := hrel
    by_cases hlt : i < n
    · have hltI : (i : Int) < (n : Int) := by omega
      have hA := own3_arg HD.out.own
      rw [HNL.out] at hA
      obtain ⟨_, _, e, hr⟩ := hA
      cases e
      obtain ⟨b, rfl, hrow⟩ := hr (by omega)
      obtain ⟨q, hq⟩ : ∃ q, q = 3 * i := ⟨_, rfl⟩
      have x0 := hrow.c0 i hlt
      have x1 := hrow.c1 i hlt
      have x2 := hrow.c2 i hlt
      rw [← hq] at x0 x1 x2
      have hiq : i * 3 = q := by omega
      clear hrow hq hr
      have HZ := hid (HLG.out (pcF L i))
      generalize pcF L i = p at x0 x1 x2 HZ
      go_wp2_with fail
      refine (HZ.out _).mono ?_
      rintro e w4 ⟨rfl, hb4⟩
      have HD4 := hid (HD.out.past hb4)
      clear hb4 HD x0 x1 x2 HZ
      have hwr := wrap_in (X + pcSz p)
      generalize pcSz p = Y at hwr ⊢
      go_wp2_with fail
      go_roundw
      case rel => exact ⟨i + 1, _, by omega, by go_num, rfl, hwr, HD4⟩
      case measure => simp [intN]; omega
    · obtain rfl : i = n := by omega
      have hm : 0 ≤ max 0 (min X 1000) ∧ max 0 (min X 1000) ≤ 4000 := by omega
      have HM := hid hm
      clear hm
      go_wp2_with fail
      refine (pieces_kept hS HD.out.r3.rd (max 0 (min X 1000)) HM.out.1 HM.out.2).mono ?_
      rintro e w5 ⟨vb, Lb, hLb, rfl, hd5⟩
      have HD5 := hid hd5
      have HO := hid (own3_keep (w' := w5) HD.out.own fun k hk => hd5.r3.grown.block k (HD.out.own.lt k hk).2 (fun c => HD.out.apart (hk.trans c)))
      have HBB : Hid (w0.heap.size ≤ w2.heap.size ∧ w0.heap.size ≤ wr.heap.size) := ⟨HR2.out.below.size, HD.out.r3.rd.below.size⟩
      have HSZ := hid HD.out.sz
      clear hd5 HD HM
      go_wp2_with fail
      go_ret2
      exact ⟨⟨_, vb, L, Lb, by rw [HNL.out]; exact hL, hLb, HSZ.out, HD5.out.sz, rfl, own3_base HO.out HBB.out.1, own3_base HD5.out.own HBB.out.2⟩, HD5.out.r3.rd.below⟩
end Go.Proofs.Ytckpnggjboafpae
