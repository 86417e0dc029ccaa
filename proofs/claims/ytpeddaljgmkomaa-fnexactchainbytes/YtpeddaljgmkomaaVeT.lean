/-
  The specification's ChainOk, VersionAt, DepthAt.
-/
import Derived.Test.YtpeddaljgmkomaaVeS
import Derived.Test.YtpeddaljgmkomaaVeE
namespace Go.Proofs.Ytpeddaljgmkomaa
open Go.RowKit
set_option linter.unusedVariables false
set_option linter.unusedSimpArgs false
set_option maxRecDepth 100000 in
theorem schain_any (v : Value) (L : List LkI) (bs : List Nat) (w : World) (hl : LkLe L) (h : Hd w (lksD L) v bs) :
    Calls Try.prog 14 #[v] w fun e w' => e = .returned (.bool (chB L)) ∧ Below w.heap.size w w' := by
  obtain ⟨a, n, c, rfl, _⟩ := h.rd.slice
  have HVS : Hid (Calls Try.prog 38 #[.slice a n c] w fun e w2 => SvPost w (vAll L) e w2) := sv_any _ L bs w hl h
  clear h
  go_enter Try.func14, Try.ntmps14
  go_wp2_with fail
  refine HVS.out.mono ?_
  rintro e w3 ⟨hpost, hb3⟩
  have HB3 := dhid hb3
  clear hb3
  cases hA : vAll L with
  | none =>
    rw [hA] at hpost
    obtain rfl := hpost
    have HCB : Hid (chB L = false) := by unfold chB; rw [hA]; exact rfl
    clear hA HVS
    go_wp2_with fail
    go_ret
    exact ⟨by rw [HCB.out]; rfl, HB3.out⟩
  | some V =>
    rw [hA] at hpost
    obtain ⟨x, rfl, hm⟩ := hpost
    have HCB : Hid (chB L = true) := by unfold chB; rw [hA]; exact rfl
    clear hA hm HVS
    go_wp2_with fail
    go_ret
    exact ⟨by rw [HCB.out]; rfl, HB3.out⟩
theorem verOf_low {L : List LkI} {k : Int} {V : List VerI} (hA : vAll L = some V) (h : ¬ (0 ≤ k ∧ k ≤ (L.length : Int) - 1)) : verOf L k = none := by
  have hl := (vAll_some hA).2.2
  unfold verOf
  rw [hA]
  show (if 0 ≤ k then V[k.toNat]? else none) = none
  split
  · rw [List.getElem?_eq_none]; omega
  · rfl
theorem verOf_at {L : List LkI} {k : Int} {V : List VerI} (hA : vAll L = some V) (h : 0 ≤ k ∧ k ≤ (L.length : Int) - 1) : ∃ y, V[k.toNat]? = some y ∧ verOf L k = some y := by
  have hl := (vAll_some hA).2.2
  have hk : k.toNat < V.length := by omega
  refine ⟨V[k.toNat], List.getElem?_eq_getElem hk, ?_⟩
  unfold verOf
  rw [hA]
  show (if 0 ≤ k then V[k.toNat]? else none) = _
  rw [if_pos h.1, List.getElem?_eq_getElem hk]
set_option maxRecDepth 100000 in
set_option maxHeartbeats 1000000 in
theorem sverAt_any (v : Value) (L : List LkI) (bs : List Nat) (k : Int) (w : World) (hl : LkLe L) (h : Hd w (lksD L) v bs) :
    Calls Try.prog 18 #[v, .int .i64 k] w fun e w' => e = .returned (.tuple #[.string ((verOf L k).getD ver0).t, .bool (verOf L k).isSome]) ∧ Below w.heap.size w w' := by
  obtain ⟨a, c, rfl, _⟩ := lks_at h
  have HVS : Hid (Calls Try.prog 38 #[.slice a L.length c] w fun e w2 => SvPost w (vAll L) e w2) := sv_any _ L bs w hl h
  have HIY : Hid (∀ (x lo hi : Int) w, lo ≤ x → x ≤ hi → Calls Try.prog 42 #[.int .i64 x, .int .i64 lo, .int .i64 hi] w fun e w' => e = .returned (.bool true) ∧ w' = w) := fun x lo hi w h1 h2 => in_yes x lo hi w h1 h2
  have HIN : Hid (∀ (x lo hi : Int) w, ¬ (lo ≤ x ∧ x ≤ hi) → Calls Try.prog 42 #[.int .i64 x, .int .i64 lo, .int .i64 hi] w fun e w' => e = .returned (.bool false) ∧ w' = w) := fun x lo hi w h => in_no x lo hi w h
  have HLEN := hl.len
  obtain ⟨n, hn⟩ : ∃ n, n = L.length := ⟨_, rfl⟩
  rw [← hn] at HVS HLEN ⊢
  have HN := dhid hn
  have hw1 : IntKind.i64.wrap ((n : Int) - 1) = (n : Int) - 1 := by rw [IntKind.wrap_i64]; omega
  clear h hn
  go_enter Try.func18, Try.ntmps18
  go_wp2_with fail
  refine HVS.out.mono ?_
  rintro e w3 ⟨hpost, hb3⟩
  have HB3 := dhid hb3
  clear hb3
  cases hA : vAll L with
  | none =>
    rw [hA] at hpost
    obtain rfl := hpost
    have HVV := dhid (verOf_none (k := k) hA)
    clear hA HVS
    go_wp2_with fail
    go_ret2
    exact ⟨by rw [HVV.out]; rfl, HB3.out⟩
  | some V =>
    rw [hA] at hpost
    obtain ⟨x, rfl, hm⟩ := hpost
    by_cases hin : 0 ≤ k ∧ k ≤ (n : Int) - 1
    · obtain ⟨y, hy, hv⟩ := verOf_at hA (by rw [← HN.out]; exact hin)
      have HVV := dhid hv
      have hVl := (vAll_some hA).2.2
      have h0V : 0 < V.length := by rw [hVl, ← HN.out]; omega
      obtain ⟨g1, k1, rfl, hg1, hc1⟩ := owns1_at hm h0V
      have y1 := hc1 _ _ (vtC_at hy)
      obtain ⟨m, hmk⟩ : ∃ m, m = k.toNat := ⟨_, rfl⟩
      rw [← hmk] at y1 hy
      obtain rfl : (m : Int) = k := by omega
      have hVn : V.length = n := by rw [hVl, HN.out]
      rw [hVn]
      have hmI : (m : Int) < (n : Int) := by omega
      clear hA HVS hm hc1 hmk hVl hVn hy hv
      go_wp2_with fail
      refine (HIY.out _ _ _ _ hin.1 hin.2).mono ?_
      rintro e w1 ⟨rfl, hw1⟩
      subst w1
      clear hin
      go_wp2_with fail
      go_ret2
      exact ⟨by rw [HVV.out]; rfl, HB3.out⟩
    · have HVV := dhid (verOf_low hA (by rw [← HN.out]; exact hin))
      have HINN := dhid hin
      clear hA HVS hm hin
      go_wp2_with fail
      refine (HIN.out _ _ _ _ HINN.out).mono ?_
      rintro e w1 ⟨rfl, hw1⟩
      subst w1
      go_wp2_with fail
      go_ret2
      exact ⟨by rw [HVV.out]; rfl, HB3.out⟩
set_option maxRecDepth 100000 in
set_option maxHeartbeats 1000000 in
theorem sdepth_any (g n c : Nat) (L : List LkI) (hLn : n = L.length) (V : List VerI) (m : Nat) (y : VerI) (w : World) (hA : vAll L = some V) (hm : V[m]? = some y) (hg : LkCells w g L) :
    Calls Try.prog 44 #[.slice (some ⟨g, 0, none⟩) n c, .int .i64 (m : Int)] w fun e w' => e = .returned (.int .i64 y.d) ∧ Below w.heap.size w w' := by
  obtain ⟨hL30, hVF, hVl⟩ := vAll_some hA
  have hml := (List.getElem?_eq_some_iff.1 hm).1
  have hyb := vF_bd hVF y (List.mem_of_getElem? hm)
  have hn30 : n ≤ 30 := by omega
  have HX : Hid (n = L.length ∧ LkCells w g L ∧ vF L L.length = some V ∧ V.length = L.length) := ⟨hLn, hg, hVF, hVl⟩
  have hml2 : m < n := by omega
  have HYB : Hid (0 ≤ y.d ∧ y.d ≤ 6) := hyb.2
  have HM0 := dhid hm
  clear hg hVF hVl hA hL30 hLn hml hm hyb
  go_enter Try.func44, Try.ntmps44
  go_wp2_with fail
  go_loopw [1, 5] (fun v u wr => ∃ (i : Nat) (x : VerI) (d : Int), i < n ∧ v = .int .i64 (i : Int) ∧ u = .int .i64 d ∧ Hid (V[i]? = some x ∧ d + x.d = y.d) ∧ 0 ≤ d ∧ Hid (Below w.heap.size w wr)) (fun v _ _ => (intN v).toNat)
  case atStart => exact ⟨m, y, 0, hml2, rfl, rfl, ⟨HM0.out, by omega⟩, by omega, Below.refl _ _⟩
  case round =>
    obtain ⟨i, x, d, hi, rfl, rfl, HV, hd0, HB⟩ := hrel
    have hx := List.getElem?_eq_getElem (l := L) (i := i) (by have := HX.out.1; omega)
    obtain ⟨v2, hv2, hcase⟩ := vF_deep HX.out.2.2.1 (by have := HX.out.1; omega) hx
    have hvx : v2 = x := by have := HV.out.1; rw [this] at hv2; injection hv2 with hv2; exact hv2.symm
    subst hvx
    obtain ⟨pv, bs, x0, x1, x2, hd⟩ := HX.out.2.1.2 i _ hx
    have hgl := HX.out.2.1.1
    have hxb := vF_bd HX.out.2.2.1 v2 (List.mem_of_getElem? hv2)
    generalize L[i]'_ = l at hx hcase x0 x1 x2 hd
    obtain ⟨q, hq⟩ : ∃ q, q = 3 * i := ⟨_, rfl⟩
    have hiq : i * 3 = q := by omega
    rw [← hq] at x0
    rw [← HB.out.cell (p := ⟨g, q, none⟩) hgl] at x0
    have hltI : (i : Int) < (n : Int) := by omega
    have hdle : d ≤ 6 := by have := HV.out.2; have := HYB.out; omega
    have hw1 : IntKind.i64.wrap (d + 1) = d + 1 := by rw [IntKind.wrap_i64]; omega
    clear x1 x2 hd hgl hq hx
    rcases hcase with ⟨hb, hxd⟩ | ⟨hb, hbi, o, ho, hxd⟩
    · rw [hb] at x0
      have HE : Hid (d = y.d) := by have := HV.out.2; show d = y.d; omega
      clear hb hxd HV hxb
      go_wp2_with fail
      go_ret
      exact ⟨by rw [HE.out]; rfl, HB.out⟩
    · obtain ⟨j, hj⟩ : ∃ j, j = l.b.toNat := ⟨_, rfl⟩
      have hjI : l.b = (j : Int) := by omega
      rw [← hj] at hbi ho
      rw [hjI] at x0
      have HN : Hid (V[j]? = some o ∧ d + 1 + o.d = y.d) := ⟨ho, by have := HV.out.2; omega⟩
      clear hb hxd HV hxb ho hj hjI
      go_wp2_with fail
      go_roundw
      case rel => exact ⟨j, o, d + 1, by omega, rfl, rfl, HN, by omega, HB⟩
      case measure => simp [intN]; omega
set_option maxRecDepth 100000 in
set_option maxHeartbeats 1000000 in
theorem sdepAt_any (v : Value) (L : List LkI) (bs : List Nat) (k : Int) (w : World) (hl : LkLe L) (h : Hd w (lksD L) v bs) :
    Calls Try.prog 20 #[v, .int .i64 k] w fun e w' => e = .returned (.int .i64 (depI L k)) ∧ Below w.heap.size w w' := by
  obtain ⟨a, c, rfl, hx⟩ := lks_at h
  have HVS : Hid (Calls Try.prog 14 #[.slice a L.length c] w fun e w' => e = .returned (.bool (chB L)) ∧ Below w.heap.size w w') := schain_any _ L bs w hl h
  have HIY : Hid (∀ (x lo hi : Int) w, lo ≤ x → x ≤ hi → Calls Try.prog 42 #[.int .i64 x, .int .i64 lo, .int .i64 hi] w fun e w' => e = .returned (.bool true) ∧ w' = w) := fun x lo hi w h1 h2 => in_yes x lo hi w h1 h2
  have HIN : Hid (∀ (x lo hi : Int) w, ¬ (lo ≤ x ∧ x ≤ hi) → Calls Try.prog 42 #[.int .i64 x, .int .i64 lo, .int .i64 hi] w fun e w' => e = .returned (.bool false) ∧ w' = w) := fun x lo hi w h => in_no x lo hi w h
  have HLEN := hl.len
  obtain ⟨n, hn⟩ : ∃ n, n = L.length := ⟨_, rfl⟩
  rw [← hn] at HVS HLEN hx ⊢
  have HN := dhid hn
  have HX := dhid hx
  have hw1 : IntKind.i64.wrap ((n : Int) - 1) = (n : Int) - 1 := by rw [IntKind.wrap_i64]; omega
  clear h hn hx
  cases hA : vAll L with
  | none =>
    have hcb : chB L = false := by unfold chB; rw [hA]; rfl
    rw [hcb] at HVS
    have HVV : Hid (depI L k = -1) := by show depI L k = -1; unfold depI; rw [verOf_none hA]; rfl
    clear hA hcb
    go_enter Try.func20, Try.ntmps20
    go_wp2_with fail
    refine HVS.out.mono ?_
    rintro e w3 ⟨rfl, hb3⟩
    have HB3 := dhid hb3
    clear hb3 HVS
    go_wp2_with fail
    go_ret
    exact ⟨by rw [HVV.out]; rfl, HB3.out⟩
  | some V =>
    have hcb : chB L = true := by unfold chB; rw [hA]; rfl
    rw [hcb] at HVS
    by_cases hin : 0 ≤ k ∧ k ≤ (n : Int) - 1
    · obtain ⟨y, hy, hv⟩ := verOf_at hA (by rw [← HN.out]; exact hin)
      have HVV : Hid (depI L k = y.d) := by show depI L k = y.d; unfold depI; rw [hv]; rfl
      obtain ⟨m, hmk⟩ : ∃ m, m = k.toNat := ⟨_, rfl⟩
      rw [← hmk] at hy
      obtain rfl : (m : Int) = k := by omega
      obtain ⟨g, rfl, hg⟩ := HX.out (by omega)
      have HD : Hid (∀ w', Below w.heap.size w w' → Calls Try.prog 44 #[.slice (some ⟨g, 0, none⟩) n c, .int .i64 (m : Int)] w' fun e w2 => e = .returned (.int .i64 y.d) ∧ Below w'.heap.size w' w2) := fun w' hb => sdepth_any g n c L HN.out V m y w' hA hy (hg.under hb)
      clear hA hcb hg hy hv hmk
      go_enter Try.func20, Try.ntmps20
      go_wp2_with fail
      refine HVS.out.mono ?_
      rintro e w3 ⟨rfl, hb3⟩
      have HB3 := dhid hb3
      clear hb3 HVS
      go_wp2_with fail
      refine (HIY.out _ _ _ _ hin.1 hin.2).mono ?_
      rintro e w1 ⟨rfl, hw1⟩
      subst w1
      clear hin
      go_wp2_with fail
      refine (HD.out _ HB3.out).mono ?_
      rintro e w4 ⟨rfl, hb4⟩
      have HB4 := dhid (dblow HB3.out hb4 HB3.out.size)
      clear hb4 HD
      go_wp2_with fail
      go_ret
      exact ⟨by rw [HVV.out]; rfl, HB4.out⟩
    · have HVV : Hid (depI L k = -1) := by show depI L k = -1; unfold depI; rw [verOf_low hA (by rw [← HN.out]; exact hin)]; rfl
      have HINN := dhid hin
      clear hA hcb hin
      go_enter Try.func20, Try.ntmps20
      go_wp2_with fail
      refine HVS.out.mono ?_
      rintro e w3 ⟨rfl, hb3⟩
      have HB3 := dhid hb3
      clear hb3 HVS
      go_wp2_with fail
      refine (HIN.out _ _ _ _ HINN.out).mono ?_
      rintro e w1 ⟨rfl, hw1⟩
      subst w1
      go_wp2_with fail
      go_ret
      exact ⟨by rw [HVV.out]; rfl, HB3.out⟩
end Go.Proofs.Ytpeddaljgmkomaa
