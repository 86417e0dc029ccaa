/-
  How many bytes a chain takes: the code's and the specification's.
-/
import Derived.Test.YtpeddaljgmkomaaVeT
import Derived.Test.YtpeddaljgmkomaaDtC
import Derived.Test.YtpeddaljgmkomaaDtS
namespace Go.Proofs.Ytpeddaljgmkomaa
open Go.RowKit
set_option linter.unusedVariables false
set_option linter.unusedSimpArgs false
noncomputable def cb1 (x : LkI) : Nat := x.d.size + if x.b = -1 then 0 else (dtV (pcF x.p) x.p.length).size
noncomputable def cbN (L : List LkI) : Nat := (L.map cb1).sum
noncomputable def cbI (L : List LkI) : Int := if chB L then (cbN L : Int) else -1
theorem dtV_size {F : Nat → PcI} {n : Nat} (h : PcLe F n) : (dtV F n).size ≤ 524303010 := by
  by_cases hr : pcR F n 4000
  · rw [dtV_yes hr]
    have h1 := dtB_size (F := F) (n := n) (i := n) hr.2.2.1 h.d hr.2.2.2.1
    have h2 := hr.2.2.1
    omega
  · rw [dtV_no hr]; decide
theorem cb1_le {x : LkI} (hd : x.d.size ≤ 1048576) (hp : PcLe (pcF x.p) x.p.length) : cb1 x ≤ 525351586 := by
  have := dtV_size hp
  unfold cb1
  split <;> omega
theorem cbT_le {L : List LkI} (h : LkLe L) : ∀ i, i ≤ 30 → ((L.take i).map cb1).sum ≤ i * 525351586
  | 0, _ => by simp
  | i + 1, hi => by
    have ih := cbT_le h i (by omega)
    cases hx : L[i]? with
    | none =>
      have hle : L.length ≤ i := List.getElem?_eq_none_iff.1 hx
      rw [List.take_of_length_le (by omega)]
      rw [List.take_of_length_le hle] at ih
      exact Nat.le_trans ih (Nat.mul_le_mul_right _ (Nat.le_succ i))
    | some x =>
      rw [sum_take cb1 hx]
      have h1 := h.one x (List.mem_of_getElem? hx)
      have := cb1_le h1.1 h1.2.2
      omega
theorem chB_some {L : List LkI} (h : chB L = true) : ∃ V, vAll L = some V := by
  unfold chB at h
  cases hA : vAll L with
  | none => rw [hA] at h; cases h
  | some V => exact ⟨V, rfl⟩
/-- a base of a right chain is a number, or there is none -/
theorem base_of {L : List LkI} (h : chB L = true) {i : Nat} {x : LkI} (hx : L[i]? = some x) : x.b = -1 ∨ 0 ≤ x.b := by
  obtain ⟨V, hA⟩ := chB_some h
  obtain ⟨_, hV, _⟩ := vAll_some hA
  obtain ⟨v, _, h1 | h1⟩ := vF_deep hV (List.getElem?_eq_some_iff.1 hx).1 hx
  · exact Or.inl h1.1
  · exact Or.inr h1.1
set_option maxRecDepth 100000 in
set_option maxHeartbeats 2000000 in
theorem cb_yes (g c n : Nat) (L : List LkI) (hLn : n = L.length) (w : World) (hl : LkLe L) (hcb : chB L = true) (hok : Calls Try.prog 16 #[.slice (some ⟨g, 0, none⟩) n c] w fun e w' => e = .returned (.bool true) ∧ Below w.heap.size w w') (hg : LkCells w g L) :
    Calls Try.prog 31 #[.slice (some ⟨g, 0, none⟩) n c] w fun e w' => e = .returned (.int .i64 (cbN L : Int)) ∧ Below w.heap.size w w' := by
  obtain ⟨V, hA⟩ := chB_some hcb
  have hn30 : n ≤ 30 := by have := (vAll_some hA).1; omega
  have hnI : (n : Int) ≤ 30 := by omega
  have HX : Hid (n = L.length ∧ LkLe L ∧ LkCells w g L ∧ chB L = true) := ⟨hLn, hl, hg, hcb⟩
  have HOK := dhid hok
  clear hg hl hLn hA hok hcb
  go_enter Try.func31, Try.ntmps31
  go_wp2_with fail
  refine HOK.out.mono ?_
  rintro e w3 ⟨rfl, hb3⟩
  have HB3 := dhid hb3
  clear hb3 HOK
  go_wp2_with fail
  go_loopw [3, 11] (fun u v wr => ∃ (i s : Nat), i ≤ n ∧ v = .int .i64 (i : Int) ∧ u = .int .i64 (s : Int) ∧ Hid (s = ((L.take i).map cb1).sum) ∧ Hid (Below w.heap.size w wr)) (fun _ v _ => n - (intN v).toNat)
  case atStart => exact ⟨0, 0, by omega, rfl, rfl, rfl, HB3⟩
  case round =>
    clear HB3
    obtain ⟨i, s, hi, rfl, rfl, HS, HB⟩ := hrel
    by_cases hlt : i < n
    · have hltI : (i : Int) < (n : Int) := by omega
      have hx := List.getElem?_eq_getElem (l := L) (i := i) (by have := HX.out.1; omega)
      have hlx := HX.out.2.1.one _ (List.mem_of_getElem? hx)
      obtain ⟨pv, bs, x0, x1, x2, hd⟩ := HX.out.2.2.1.2 i _ hx
      have hgl := HX.out.2.2.1.1
      have hsb := cbT_le HX.out.2.1 i (by omega)
      have hsx := sum_take cb1 hx
      generalize L[i]'_ = x at hx hlx x0 x1 x2 hd hsx
      have hpa := pcs_arg hd
      have HPA : Hid (∀ w', Below w.heap.size w w' → PcArg w' pv x.p.length (pcF x.p)) := fun w' hb' => hpa.below hb'
      obtain ⟨a1, c1, rfl, _⟩ := hpa
      obtain ⟨q, hq⟩ : ∃ q, q = 3 * i := ⟨_, rfl⟩
      have hiq : i * 3 = q := by omega
      rw [← hq] at x0 x1 x2
      rw [← HB.out.cell (p := ⟨g, q, none⟩) hgl] at x0
      rw [← HB.out.cell (p := ⟨g, q + 1, none⟩) hgl] at x1
      rw [← HB.out.cell (p := ⟨g, q + 2, none⟩) hgl] at x2
      obtain ⟨b, d, p⟩ := x
      simp only at x0 x1 x2 HPA hlx
      obtain ⟨np, hnp⟩ : ∃ np, np = p.length := ⟨_, rfl⟩
      rw [← hnp] at x2 HPA
      have hds := dtV_size hlx.2.2
      have hd1 := hlx.1
      have hss : s ≤ i * 525351586 := by rw [HS.out]; exact hsb
      have HDT : Hid (∀ w', Below w.heap.size w w' → Calls Try.prog 57 #[.slice a1 np c1] w' fun e w2 => e = .returned (.string (dtV (pcF p) p.length)) ∧ Below w'.heap.size w' w2) := fun w' hb' => by
        have h1 := HPA.out w' hb'
        rw [hnp] at h1 ⊢
        exact dt_any _ p.length (pcF p) w' hlx.2.2 h1
      have HSX : Hid (((L.take (i + 1)).map cb1).sum = s + cb1 ⟨b, d, p⟩) := by rw [HS.out]; exact hsx
      have HC1 : Hid (cb1 ⟨b, d, p⟩ = d.size + if b = -1 then 0 else (dtV (pcF p) p.length).size) := rfl
      have HBX : Hid (Below w.heap.size w (wr.alloc (.cells #[.int .i64 b, .string d, .slice a1 np c1] 54))) := HB.out.alloc HB.out.size _
      have hw1 : IntKind.i64.wrap ((s : Int) + (d.size : Int)) = ((s + d.size : Nat) : Int) := by rw [IntKind.wrap_i64]; omega
      generalize dtV (pcF p) p.length = T at hds HDT HC1
      have hw2 : IntKind.i64.wrap (((s + d.size : Nat) : Int) + (T.size : Int)) = ((s + d.size + T.size : Nat) : Int) := by rw [IntKind.wrap_i64]; omega
      generalize cb1 ⟨b, d, p⟩ = z at HSX HC1
      obtain ⟨s2, hs2⟩ : ∃ s2, s2 = s + d.size := ⟨_, rfl⟩
      rw [← hs2] at hw1 hw2
      have HS2 := dhid hs2
      clear hx hlx hd hsx hq hgl hsb hnp hss hds hd1 hs2 HS HPA
      by_cases hb1 : b = -1
      · subst hb1
        have HNEW : Hid (s2 = ((L.take (i + 1)).map cb1).sum) := by have h1 := HSX.out; have h2 := HC1.out; have h3 := HS2.out; rw [if_pos rfl] at h2; show s2 = _; omega
        clear HSX HC1 HS2
        go_wp2_with fail
        go_roundw
        case rel => exact ⟨i + 1, s2, by omega, by go_num, rfl, HNEW, HBX⟩
        case measure => simp [intN]; omega
      · have hbe : (b == -1) = false := beq_eq_false_iff_ne.2 hb1
        have HNEW : Hid (s2 + T.size = ((L.take (i + 1)).map cb1).sum) := by have h1 := HSX.out; have h2 := HC1.out; have h3 := HS2.out; rw [if_neg hb1] at h2; show s2 + T.size = _; omega
        clear HSX HC1 hb1 HS2
        go_wp2_with fail
        refine (HDT.out _ HBX.out).mono ?_
        rintro e w4 ⟨rfl, hb4⟩
        have HB4 := dhid (dblow HBX.out hb4 HBX.out.size)
        clear hb4 HBX x0 x1 x2 HDT
        go_wp2_with fail
        go_roundw
        case rel => exact ⟨i + 1, s2 + T.size, by omega, by go_num, by go_num, HNEW, HB4⟩
        case measure => simp [intN]; omega
    · obtain rfl : i = n := by omega
      have HE : Hid (s = cbN L) := by show s = cbN L; rw [HS.out, List.take_of_length_le (by have := HX.out.1; omega)]; rfl
      go_wp2_with fail
      go_ret
      exact ⟨by rw [← HE.out]; rfl, HB.out⟩
set_option maxRecDepth 100000 in
set_option maxHeartbeats 2000000 in
theorem scb_yes (g c n : Nat) (L : List LkI) (hLn : n = L.length) (w : World) (hl : LkLe L) (hcb : chB L = true) (hok : Calls Try.prog 14 #[.slice (some ⟨g, 0, none⟩) n c] w fun e w' => e = .returned (.bool true) ∧ Below w.heap.size w w') (hg : LkCells w g L) :
    Calls Try.prog 30 #[.slice (some ⟨g, 0, none⟩) n c] w fun e w' => e = .returned (.int .i64 (cbN L : Int)) ∧ Below w.heap.size w w' := by
  obtain ⟨V, hA⟩ := chB_some hcb
  have hn30 : n ≤ 30 := by have := (vAll_some hA).1; omega
  have hnI : (n : Int) ≤ 30 := by omega
  have HX : Hid (n = L.length ∧ LkLe L ∧ LkCells w g L ∧ chB L = true) := ⟨hLn, hl, hg, hcb⟩
  have HOK := dhid hok
  clear hg hl hLn hA hok hcb
  go_enter Try.func30, Try.ntmps30
  go_wp2_with fail
  refine HOK.out.mono ?_
  rintro e w3 ⟨rfl, hb3⟩
  have HB3 := dhid hb3
  clear hb3 HOK
  go_wp2_with fail
  go_loopw [3, 4] (fun u v wr => ∃ (i s : Nat), i ≤ n ∧ v = .int .i64 (i : Int) ∧ u = .int .i64 (s : Int) ∧ Hid (s = ((L.take i).map cb1).sum) ∧ Hid (Below w.heap.size w wr)) (fun _ v _ => n - (intN v).toNat)
  case atStart => exact ⟨0, 0, by omega, rfl, rfl, rfl, HB3⟩
  case round =>
    clear HB3
    obtain ⟨i, s, hi, rfl, rfl, HS, HB⟩ := hrel
    by_cases hlt : i < n
    · have hltI : (i : Int) < (n : Int) := by omega
      have hx := List.getElem?_eq_getElem (l := L) (i := i) (by have := HX.out.1; omega)
      have hlx := HX.out.2.1.one _ (List.mem_of_getElem? hx)
      have hbase := base_of HX.out.2.2.2 hx
      obtain ⟨pv, bs, x0, x1, x2, hd⟩ := HX.out.2.2.1.2 i _ hx
      have hgl := HX.out.2.2.1.1
      have hsb := cbT_le HX.out.2.1 i (by omega)
      have hsx := sum_take cb1 hx
      generalize L[i]'_ = x at hx hlx x0 x1 x2 hd hsx hbase
      have hpa := pcs_arg hd
      have HPA : Hid (∀ w', Below w.heap.size w w' → PcArg w' pv x.p.length (pcF x.p)) := fun w' hb' => hpa.below hb'
      obtain ⟨a1, c1, rfl, _⟩ := hpa
      obtain ⟨q, hq⟩ : ∃ q, q = 3 * i := ⟨_, rfl⟩
      have hiq : i * 3 = q := by omega
      rw [← hq] at x0 x1 x2
      rw [← HB.out.cell (p := ⟨g, q, none⟩) hgl] at x0
      rw [← HB.out.cell (p := ⟨g, q + 1, none⟩) hgl] at x1
      rw [← HB.out.cell (p := ⟨g, q + 2, none⟩) hgl] at x2
      obtain ⟨b, d, p⟩ := x
      simp only at x0 x1 x2 HPA hlx hbase
      obtain ⟨np, hnp⟩ : ∃ np, np = p.length := ⟨_, rfl⟩
      rw [← hnp] at x2 HPA
      have hds := dtV_size hlx.2.2
      have hd1 := hlx.1
      have hss : s ≤ i * 525351586 := by rw [HS.out]; exact hsb
      have HDT : Hid (∀ w', Below w.heap.size w w' → Calls Try.prog 47 #[.slice a1 np c1] w' fun e w2 => e = .returned (.string (dtV (pcF p) p.length)) ∧ Below w'.heap.size w' w2) := fun w' hb' => by
        have h1 := HPA.out w' hb'
        rw [hnp] at h1 ⊢
        exact sdt_any _ p.length (pcF p) w' hlx.2.2 h1
      have HSX : Hid (((L.take (i + 1)).map cb1).sum = s + cb1 ⟨b, d, p⟩) := by rw [HS.out]; exact hsx
      have HC1 : Hid (cb1 ⟨b, d, p⟩ = d.size + if b = -1 then 0 else (dtV (pcF p) p.length).size) := rfl
      have hw1 : IntKind.i64.wrap ((s : Int) + (d.size : Int)) = ((s + d.size : Nat) : Int) := by rw [IntKind.wrap_i64]; omega
      generalize dtV (pcF p) p.length = T at hds HDT HC1
      have hw2 : IntKind.i64.wrap (((s + d.size : Nat) : Int) + (T.size : Int)) = ((s + d.size + T.size : Nat) : Int) := by rw [IntKind.wrap_i64]; omega
      generalize cb1 ⟨b, d, p⟩ = z at HSX HC1
      obtain ⟨s2, hs2⟩ : ∃ s2, s2 = s + d.size := ⟨_, rfl⟩
      rw [← hs2] at hw1 hw2
      have HS2 := dhid hs2
      clear hx hlx hd hsx hq hgl hsb hnp hss hds hd1 hs2 HS HPA
      rcases hbase with hb1 | hb1
      · subst hb1
        have HNEW : Hid (s2 = ((L.take (i + 1)).map cb1).sum) := by have h1 := HSX.out; have h2 := HC1.out; have h3 := HS2.out; rw [if_pos rfl] at h2; show s2 = _; omega
        clear HSX HC1 HS2
        go_wp2_with fail
        go_roundw
        case rel => exact ⟨i + 1, s2, by omega, by go_num, rfl, HNEW, HB⟩
        case measure => simp [intN]; omega
      · have HNEW : Hid (s2 + T.size = ((L.take (i + 1)).map cb1).sum) := by have h1 := HSX.out; have h2 := HC1.out; have h3 := HS2.out; rw [if_neg (by omega)] at h2; show s2 + T.size = _; omega
        clear HSX HC1 HS2
        go_wp2_with fail
        refine (HDT.out _ HB.out).mono ?_
        rintro e w4 ⟨rfl, hb4⟩
        have HB4 := dhid (dblow HB.out hb4 HB.out.size)
        clear hb4 HB x0 x1 x2 HDT
        go_wp2_with fail
        go_roundw
        case rel => exact ⟨i + 1, s2 + T.size, by omega, by go_num, by go_num, HNEW, HB4⟩
        case measure => simp [intN]; omega
    · obtain rfl : i = n := by omega
      have HE : Hid (s = cbN L) := by show s = cbN L; rw [HS.out, List.take_of_length_le (by have := HX.out.1; omega)]; rfl
      go_wp2_with fail
      go_ret
      exact ⟨by rw [← HE.out]; rfl, HB.out⟩
set_option maxRecDepth 100000 in
theorem cb_any (v : Value) (L : List LkI) (bs : List Nat) (w : World) (hl : LkLe L) (h : Hd w (lksD L) v bs) :
    Calls Try.prog 31 #[v] w fun e w' => e = .returned (.int .i64 (cbI L)) ∧ Below w.heap.size w w' := by
  have hok := chain_any v L bs w hl h
  obtain ⟨a, c, rfl, hx⟩ := lks_at h
  cases hcb : chB L with
  | false =>
    rw [hcb] at hok
    have HV : Hid (cbI L = -1) := by show cbI L = -1; unfold cbI; rw [hcb]; rfl
    have HOK := dhid hok
    clear hcb hok hx h
    obtain ⟨n, hn⟩ : ∃ n, n = L.length := ⟨_, rfl⟩
    rw [← hn] at HOK ⊢
    clear hn
    go_enter Try.func31, Try.ntmps31
    go_wp2_with fail
    refine HOK.out.mono ?_
    rintro e w3 ⟨rfl, hb3⟩
    go_wp2_with fail
    go_ret
    exact ⟨by rw [HV.out]; rfl, hb3⟩
  | true =>
    rw [hcb] at hok
    have hV : cbI L = (cbN L : Int) := by unfold cbI; rw [hcb]; rfl
    rw [hV]
    by_cases h0 : 0 < L.length
    · obtain ⟨g, rfl, hg⟩ := hx h0
      exact cb_yes g c L.length L rfl w hl hcb hok hg
    · have e0 : L = [] := List.length_eq_zero_iff.1 (by omega)
      subst e0
      have HOK : Hid (Calls Try.prog 16 #[.slice a 0 c] w fun e w' => e = .returned (.bool true) ∧ Below w.heap.size w w') := hok
      clear hok hx h hcb hV h0
      show Calls Try.prog 31 #[.slice a 0 c] w fun e w' => e = .returned (.int .i64 0) ∧ Below w.heap.size w w'
      go_enter Try.func31, Try.ntmps31
      go_wp2_with fail
      refine HOK.out.mono ?_
      rintro e w3 ⟨rfl, hb3⟩
      go_wp2_with fail
      refine wp_loop_rounds 1 ?_
      rw [rounds_succ]
      go_wp2_with fail
      go_ret
      exact ⟨rfl, hb3⟩
set_option maxRecDepth 100000 in
theorem scb_any (v : Value) (L : List LkI) (bs : List Nat) (w : World) (hl : LkLe L) (h : Hd w (lksD L) v bs) :
    Calls Try.prog 30 #[v] w fun e w' => e = .returned (.int .i64 (cbI L)) ∧ Below w.heap.size w w' := by
  have hok := schain_any v L bs w hl h
  obtain ⟨a, c, rfl, hx⟩ := lks_at h
  cases hcb : chB L with
  | false =>
    rw [hcb] at hok
    have HV : Hid (cbI L = -1) := by show cbI L = -1; unfold cbI; rw [hcb]; rfl
    have HOK := dhid hok
    clear hcb hok hx h
    obtain ⟨n, hn⟩ : ∃ n, n = L.length := ⟨_, rfl⟩
    rw [← hn] at HOK ⊢
    clear hn
    go_enter Try.func30, Try.ntmps30
    go_wp2_with fail
    refine HOK.out.mono ?_
    rintro e w3 ⟨rfl, hb3⟩
    go_wp2_with fail
    go_ret
    exact ⟨by rw [HV.out]; rfl, hb3⟩
  | true =>
    rw [hcb] at hok
    have hV : cbI L = (cbN L : Int) := by unfold cbI; rw [hcb]; rfl
    rw [hV]
    by_cases h0 : 0 < L.length
    · obtain ⟨g, rfl, hg⟩ := hx h0
      exact scb_yes g c L.length L rfl w hl hcb hok hg
    · have e0 : L = [] := List.length_eq_zero_iff.1 (by omega)
      subst e0
      have HOK : Hid (Calls Try.prog 14 #[.slice a 0 c] w fun e w' => e = .returned (.bool true) ∧ Below w.heap.size w w') := hok
      clear hok hx h hcb hV h0
      show Calls Try.prog 30 #[.slice a 0 c] w fun e w' => e = .returned (.int .i64 0) ∧ Below w.heap.size w w'
      go_enter Try.func30, Try.ntmps30
      go_wp2_with fail
      refine HOK.out.mono ?_
      rintro e w3 ⟨rfl, hb3⟩
      go_wp2_with fail
      refine wp_loop_rounds 1 ?_
      rw [rounds_succ]
      go_wp2_with fail
      go_ret
      exact ⟨rfl, hb3⟩
end Go.Proofs.Ytpeddaljgmkomaa
