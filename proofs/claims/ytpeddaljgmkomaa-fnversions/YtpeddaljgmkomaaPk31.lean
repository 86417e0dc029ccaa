/-
  Several texts of this seat as one: WhL, WhS, Big.
-/
import Derived.Test.YtpeddaljgmkomaaPk30
import Derived.Test.YtpeddaljgmkomaaPk14
import Derived.Test.YtpeddaljgmkomaaPk17
import Derived.Test.YtpeddaljgmkomaaPk23
import Derived.Test.YtpeddaljgmkomaaRows
import Derived.WalkKit
import Derived.WalkSpells

/-!   A version made whole: what is told of the chain. -/
namespace Go.Proofs.Ytpeddaljgmkomaa
open Go.RowKit
set_option linter.unusedVariables false
set_option linter.unusedSimpArgs false
theorem LkLe.set {L : List LkI} {k : Nat} {x : LkI} (h : LkLe L) (hd : x.d.size ≤ 1048576) (hb : (Lit.int .i64 x.b).wf = true) (hp : PcLe (pcF x.p) x.p.length) : LkLe (L.set k x) := by
  refine ⟨by rw [List.length_set]; exact h.len, fun y hy => ?_⟩
  rcases List.mem_or_eq_of_mem_set hy with h1 | h1
  · exact h.one y h1
  · subst h1
    exact ⟨hd, hb, hp⟩
theorem depI_yes {L : List LkI} {k : Int} {y : VerI} (h : verOf L k = some y) : depI L k = y.d := by unfold depI; rw [h]; rfl
theorem chB_yes {L : List LkI} {V : List VerI} (h : vAll L = some V) : chB L = true := by unfold chB; rw [h]; rfl
theorem wh_good {L M : List LkI} {k : Int} (hl : LkLe L) (h : whR L k = some M) : M.length = L.length ∧ LkLe M ∧ chB M = true ∧ depI M k = 0 ∧ Same L M := by
  unfold whR at h
  cases hv : verOf L k with
  | none => rw [hv] at h; cases h
  | some y =>
    rw [hv] at h
    have h : some (L.set k.toNat ⟨-1, y.t, []⟩) = some M := h
    injection h with h
    subst h
    obtain ⟨V, hA, h0, hkl, hy⟩ := verOf_in hv
    have hb := vF_bd (vAll_some hA).2.1 y (List.mem_of_getElem? hy)
    obtain ⟨V', h1, h2, h3⟩ := vs_whole hA hkl hy
    refine ⟨by simp, hl.set (by show y.t.size ≤ _; have := hb.1; omega) (Go.WalkArith.wf_i64 (by show -9223372036854775808 ≤ (-1 : Int) ∧ (-1 : Int) ≤ _; omega)) (show PcLe (pcF []) 0 from ⟨by omega, fun i hi => absurd hi (Nat.not_lt_zero i)⟩), chB_yes h1, ?_, h2.same hA h1⟩
    have hk : verOf (L.set k.toNat ⟨-1, y.t, []⟩) k = some ⟨y.t, 0⟩ := by
      have h4 := verOf_nat h1 k.toNat
      rw [h3] at h4
      have e : ((k.toNat : Nat) : Int) = k := by omega
      rw [e] at h4
      exact h4
    rw [depI_yes hk]
end Go.Proofs.Ytpeddaljgmkomaa

/-!   A version made whole: the specification's. -/
namespace Go.Proofs.Ytpeddaljgmkomaa
open Go.RowKit
set_option linter.unusedVariables false
set_option linter.unusedSimpArgs false
set_option maxRecDepth 100000 in
set_option maxHeartbeats 2000000 in
theorem swhole_any (v : Value) (L : List LkI) (bs : List Nat) (k : Int) (w : World) (hl : LkLe L) (h : Hd w (lksD L) v bs) :
    Calls Try.prog 26 #[v, .int .i64 k] w fun e w' => LkPost w (whR L k) e w' := by
  obtain ⟨a, c, rfl, _⟩ := lks_at h
  have HVS : Hid (Calls Try.prog 38 #[.slice a L.length c] w fun e w2 => SvPost w (vAll L) e w2) := sv_any _ L bs w hl h
  have HIY : Hid (∀ (x lo hi : Int) w, lo ≤ x → x ≤ hi → Calls Try.prog 42 #[.int .i64 x, .int .i64 lo, .int .i64 hi] w fun e w' => e = .returned (.bool true) ∧ w' = w) := fun x lo hi w h1 h2 => in_yes x lo hi w h1 h2
  have HIN : Hid (∀ (x lo hi : Int) w, ¬ (lo ≤ x ∧ x ≤ hi) → Calls Try.prog 42 #[.int .i64 x, .int .i64 lo, .int .i64 hi] w fun e w' => e = .returned (.bool false) ∧ w' = w) := fun x lo hi w h => in_no x lo hi w h
  have HLEN := hl.len
  have HH := dhid h
  obtain ⟨n, hn⟩ : ∃ n, n = L.length := ⟨_, rfl⟩
  rw [← hn] at HVS HLEN HH ⊢
  have HN := dhid hn
  have hw1 : IntKind.i64.wrap ((n : Int) - 1) = (n : Int) - 1 := by rw [IntKind.wrap_i64]; omega
  clear h hn
  go_enter Try.func26, Try.ntmps26
  go_wp2_with fail
  refine HVS.out.mono ?_
  rintro e w3 ⟨hpost, hb3⟩
  have HB3 := dhid hb3
  clear hb3
  cases hA : vAll L with
  | none =>
    rw [hA] at hpost
    obtain rfl := hpost
    have HR : Hid (whR L k = none) := by show whR L k = none; unfold whR; rw [verOf_none hA]; rfl
    clear hA HVS
    go_wp2_with fail
    go_ret2
    exact LkPost.no HR.out HB3.out
  | some V =>
    rw [hA] at hpost
    obtain ⟨x, rfl, hm⟩ := hpost
    by_cases hin : 0 ≤ k ∧ k ≤ (n : Int) - 1
    · obtain ⟨y, hy, hv⟩ := verOf_at hA (by rw [← HN.out]; exact hin)
      have HR : Hid (whR L k = some (L.set k.toNat ⟨-1, y.t, []⟩)) := by show whR L k = _; unfold whR; rw [hv]; rfl
      have hG := lkG_of hl hA
      have hn30 := (vAll_some hA).1
      have hVl := (vAll_some hA).2.2
      have h0V : 0 < V.length := by rw [hVl, ← HN.out]; omega
      obtain ⟨g1, k1, rfl, hg1, hc1⟩ := owns1_at hm h0V
      have y1 := hc1 _ _ (vtC_at hy)
      obtain ⟨m, hmk⟩ : ∃ m, m = k.toNat := ⟨_, rfl⟩
      rw [← hmk] at y1 hy HR
      obtain rfl : (m : Int) = k := by omega
      have hVn : V.length = n := by rw [hVl, HN.out]
      rw [hVn]
      have hmI : (m : Int) < (n : Int) := by omega
      have hmL : m < L.length := by rw [← HN.out]; omega
      have HCP : Hid (Calls Try.prog 45 #[.slice a n c] w3 fun e w' => (∃ v us, e = .returned v ∧ Gl w' w3.heap.size 54 3 isPc v n us (L.flatMap lkDs)) ∧ Below w3.heap.size w3 w') := by
        have h := scpLk_gl _ L bs w3 hn30 hG (HH.out.under HB3.out)
        rw [← HN.out] at h
        exact h
      have HY1 := dhid y1
      have HG1 := dhid hg1
      obtain ⟨t, yd⟩ := y
      simp only at HR HY1
      clear hA HVS hm hc1 hmk hVl hVn hy hv y1 hg1
      go_wp2_with fail
      refine (HIY.out _ _ _ _ hin.1 hin.2).mono ?_
      rintro e w1 ⟨rfl, hw1⟩
      subst w1
      clear hin
      go_wp2_with fail
      refine HCP.out.mono ?_
      rintro e w4 ⟨⟨v', us, rfl, hgl⟩, hb4⟩
      have hown := hgl.own (by omega) (by rw [fm_len lkDs_len, ← HN.out])
      have hown2 : Own w4 w3.heap.size (lksD L) v' := hown
      obtain ⟨a3, c3, rfl, hx⟩ := lks_own hown2
      obtain ⟨g, cur, fb, rfl, hg1, hr, hs, hnd, hlb, hc⟩ := hx (by omega)
      have y1 : w4.cell? ⟨g1, m, none⟩ = some (.string t) := (hb4.cell (p := ⟨g1, m, none⟩) HG1.out).trans HY1.out
      have HB4 := dhid (dblow HB3.out hb4 HB3.out.size)
      have hsz3 := HB3.out.size
      obtain ⟨q, hq⟩ : ∃ q, q = 3 * m := ⟨_, rfl⟩
      have hkq : m * 3 = q := by omega
      have hqs : q + 2 < cur.size := by omega
      have x0 : w4.cell? ⟨g, q, none⟩ = some cur[q] := (cell_of_row w4 _ q _ _ _ hr).trans (Array.getElem?_eq_getElem (by omega))
      have x1 : w4.cell? ⟨g, q + 1, none⟩ = some cur[q + 1] := (cell_of_row w4 _ (q + 1) _ _ _ hr).trans (Array.getElem?_eq_getElem (by omega))
      have x2 : w4.cell? ⟨g, q + 2, none⟩ = some cur[q + 2] := (cell_of_row w4 _ (q + 2) _ _ _ hr).trans (Array.getElem?_eq_getElem (by omega))
      have z0 := frozen_of_row w4 _ q _ _ hr
      have z1 := frozen_of_row w4 _ (q + 1) _ _ hr
      have z2 := frozen_of_row w4 _ (q + 2) _ _ hr
      have HEND : Hid (Own (setW3 w4 g q (.int .i64 (-1)) (.string t) (.slice none 0 0)) w.heap.size (lksD (L.set m ⟨-1, t, []⟩)) (.slice (some ⟨g, 0, none⟩) L.length c3)) := by
        show Own _ _ _ _
        rw [hq]
        exact lks_set (x := ⟨-1, t, []⟩) hmL (by omega) hr hs hnd (fun b hb => ⟨by have := (hlb b hb).1; omega, (hlb b hb).2⟩) hc (.nil _ _ _ _) List.nodup_nil (fun b hb => by cases hb) (fun hm => by cases hm) (fun b hb => by cases hb)
      have HBE : Hid (Below w.heap.size w (setW3 w4 g q (.int .i64 (-1)) (.string t) (.slice none 0 0))) := setW3_below HB4.out (by omega) _ _ _ _
      generalize cur[q] = u0 at x0
      generalize cur[q + 1] = u1 at x1
      generalize cur[q + 2] = u2 at x2
      rw [← HN.out] at HEND ⊢
      clear hgl hb4 hown hown2 hx hr hs hnd hlb hc hq hqs HCP HB4 hg1 hsz3
      go_wp2_with fail
      go_ret2
      exact LkPost.yes HR.out HEND.out HBE.out
    · have HR : Hid (whR L k = none) := by show whR L k = none; unfold whR; rw [verOf_low hA (by rw [← HN.out]; exact hin)]; rfl
      have HINN := dhid hin
      clear hA HVS hm hin
      go_wp2_with fail
      refine (HIN.out _ _ _ _ HINN.out).mono ?_
      rintro e w1 ⟨rfl, hw1⟩
      subst w1
      go_wp2_with fail
      go_ret2
      exact LkPost.no HR.out HB3.out
end Go.Proofs.Ytpeddaljgmkomaa

/-!   What 'big' answers: whether there are more than 2^20 bytes. -/
namespace Go.Proofs.Ytpeddaljgmkomaa
open Go.RowKit
theorem big_yes (a : Option Addr) (len cap : Nat) (w : World) (h : 1048576 < len) :
    Calls Try.prog 32 #[.slice a len cap] w fun e w' => e = .returned (.bool true) ∧ w' = w := by
  have hb : decide ((1048576 : Int) < (len : Int)) = true := by simp; omega
  go_enter Try.func32, Try.ntmps32
  go_wp2
  go_ret
  exact ⟨by first | rfl | (rw [← hb]; rfl), rfl⟩
theorem big_no (a : Option Addr) (len cap : Nat) (w : World) (h : ¬ 1048576 < len) :
    Calls Try.prog 32 #[.slice a len cap] w fun e w' => e = .returned (.bool false) ∧ w' = w := by
  have hb : decide ((1048576 : Int) < (len : Int)) = false := by simp; omega
  go_enter Try.func32, Try.ntmps32
  go_wp2
  go_ret
  exact ⟨by first | rfl | (rw [← hb]; rfl), rfl⟩
end Go.Proofs.Ytpeddaljgmkomaa
