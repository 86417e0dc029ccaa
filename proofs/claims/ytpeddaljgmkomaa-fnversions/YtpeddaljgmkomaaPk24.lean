/-
  Several texts of this seat as one: Cb, DoS, AvS.
-/
import Derived.Test.YtpeddaljgmkomaaPk17
import Derived.Test.YtpeddaljgmkomaaPk22
import Derived.Test.YtpeddaljgmkomaaPk23
import Derived.Test.YtpeddaljgmkomaaPk20
import Derived.BigQuiet

/-!   How many bytes a chain takes: the code's and the specification's. -/
namespace Go.Proofs.Ytpeddaljgmkomaa
open Go.RowKit
set_option linter.unusedVariables false
set_option linter.unusedSimpArgs false
noncomputable def cb1 (x : LkI) : Nat := x.d.size + if x.b = -1 then 0 else (dtV (pcF x.p) x.p.length).size
noncomputable def cbN (L : List LkI) : Nat := (L.map cb1).sum
noncomputable def cbI (L : List LkI) : Int := if chB L then (cbN L : Int) else -1
theorem dtV_size {F : Nat → PcI} {n : Nat} (h : PcLe F n) : (dtV F n).size ≤ 524303010 := by
  by_cases hr : pcR F n 4000
  · rw [dtV_yes hr]
    have h1 := dtB_size (F := F) (n := n) (i := n) hr.2.2.1 h.d hr.2.2.2.1
    have h2 := hr.2.2.1
    omega
  · rw [dtV_no hr]; decide
theorem cb1_le {x : LkI} (hd : x.d.size ≤ 1048576) (hp : PcLe (pcF x.p) x.p.length) : cb1 x ≤ 525351586 := by
  have := dtV_size hp
  unfold cb1
  split <;> omega
theorem cbT_le {L : List LkI} (h : LkLe L) : ∀ i, i ≤ 30 → ((L.take i).map cb1).sum ≤ i * 525351586
  | 0, _ => by simp
  | i + 1, hi => by
    have ih := cbT_le h i (by omega)
    cases hx : L[i]? with
    | none =>
      have hle : L.length ≤ i := List.getElem?_eq_none_iff.1 hx
      rw [List.take_of_length_le (by omega)]
      rw [List.take_of_length_le hle] at ih
      exact Nat.le_trans ih (Nat.mul_le_mul_right _ (Nat.le_succ i))
    | some x =>
      rw [sum_take cb1 hx]
      have h1 := h.one x (List.mem_of_getElem? hx)
      have := cb1_le h1.1 h1.2.2
      omega
theorem chB_some {L : List LkI} (h : chB L = true) : ∃ V, vAll L = some V := by
  unfold chB at h
  cases hA : vAll L with
  | none => rw [hA] at h; cases h
  | some V => exact ⟨V, rfl⟩
/-- a base of a right chain is a number, or there is none -/
theorem base_of {L : List LkI} (h : chB L = true) {i : Nat} {x : LkI} (hx : L[i]? = some x) : x.b = -1 ∨ 0 ≤ x.b := by
  obtain ⟨V, hA⟩ := chB_some h
  obtain ⟨_, hV, _⟩ := vAll_some hA
  obtain ⟨v, _, h1 | h1⟩ := vF_deep hV (List.getElem?_eq_some_iff.1 hx).1 hx
  · exact Or.inl h1.1
  · exact Or.inr h1.1
set_option maxRecDepth 100000 in
set_option maxHeartbeats 2000000 in
theorem cb_yes (g c n : Nat) (L : List LkI) (hLn : n = L.length) (w : World) (hl : LkLe L) (hcb : chB L = true) (hok : Calls Try.prog 16 #[.slice (some ⟨g, 0, none⟩) n c] w fun e w' => e = .returned (.bool true) ∧ Below w.heap.size w w') (hg : LkCells w g L) :
    Calls Try.prog 31 #[.slice (some ⟨g, 0, none⟩) n c] w fun e w' => e = .returned (.int .i64 (cbN L : Int)) ∧ Below w.heap.size w w' := by
  obtain ⟨V, hA⟩ := chB_some hcb
  have hn30 : n ≤ 30 := by have := (vAll_some hA).1; omega
  have hnI : (n : Int) ≤ 30 := by omega
  have HX : Hid (n = L.length ∧ LkLe L ∧ LkCells w g L ∧ chB L = true) := ⟨hLn, hl, hg, hcb⟩
  have HOK := dhid hok
  clear hg hl hLn hA hok hcb
  go_enter Try.func31, Try.ntmps31
  go_wp2_with fail
  refine HOK.out.mono ?_
  rintro e w3 ⟨rfl, hb3⟩
  have HB3 := dhid hb3
  clear hb3 HOK
  go_wp2_with fail
  go_loopw [3, 11] (fun u v wr => ∃ (i s : Nat), i ≤ n ∧ v = .int .i64 (i : Int) ∧ u = .int .i64 (s : Int) ∧ Hid (s = ((L.take i).map cb1).sum) ∧ Hid (Below w.heap.size w wr)) (fun _ v _ => n - (intN v).toNat)
  case atStart => exact ⟨0, 0, by omega, rfl, rfl, rfl, HB3⟩
  case round =>
    clear HB3
    obtain ⟨i, s, hi, rfl, rfl, HS, HB⟩ := hrel
    by_cases hlt : i < n
    · have hltI : (i : Int) < (n : Int) := by omega
      have hx := List.getElem?_eq_getElem (l := L) (i := i) (by have := HX.out.1; omega)
      have hlx := HX.out.2.1.one _ (List.mem_of_getElem? hx)
      obtain ⟨pv, bs, x0, x1, x2, hd⟩ := HX.out.2.2.1.2 i _ hx
      have hgl := HX.out.2.2.1.1
      have hsb := cbT_le HX.out.2.1 i (by omega)
      have hsx := sum_take cb1 hx
      generalize L[i]'_ = x at hx hlx x0 x1 x2 hd hsx
      have hpa := pcs_arg hd
      have HPA : Hid (∀ w', Below w.heap.size w w' → PcArg w' pv x.p.length (pcF x.p)) := fun w' hb' => hpa.below hb'
      obtain ⟨a1, c1, rfl, _⟩ := hpa
      obtain ⟨q, hq⟩ : ∃ q, q = 3 * i := ⟨_, rfl⟩
      have hiq : i * 3 = q := by omega
      rw [← hq] at x0 x1 x2
      rw [← HB.out.cell (p := ⟨g, q, none⟩) hgl] at x0
      rw [← HB.out.cell (p := ⟨g, q + 1, none⟩) hgl] at x1
      rw [← HB.out.cell (p := ⟨g, q + 2, none⟩) hgl] at x2
      obtain ⟨b, d, p⟩ := x
      simp only at x0 x1 x2 HPA hlx
      obtain ⟨np, hnp⟩ : ∃ np, np = p.length := ⟨_, rfl⟩
      rw [← hnp] at x2 HPA
      have hds := dtV_size hlx.2.2
      have hd1 := hlx.1
      have hss : s ≤ i * 525351586 := by rw [HS.out]; exact hsb
      have HDT : Hid (∀ w', Below w.heap.size w w' → Calls Try.prog 57 #[.slice a1 np c1] w' fun e w2 => e = .returned (.string (dtV (pcF p) p.length)) ∧ Below w'.heap.size w' w2) := fun w' hb' => by
        have h1 := HPA.out w' hb'
        rw [hnp] at h1 ⊢
        exact dt_any _ p.length (pcF p) w' hlx.2.2 h1
      have HSX : Hid (((L.take (i + 1)).map cb1).sum = s + cb1 ⟨b, d, p⟩) := by rw [HS.out]; exact hsx
      have HC1 : Hid (cb1 ⟨b, d, p⟩ = d.size + if b = -1 then 0 else (dtV (pcF p) p.length).size) := rfl
      have HBX : Hid (Below w.heap.size w (wr.alloc (.cells #[.int .i64 b, .string d, .slice a1 np c1] 54))) := HB.out.alloc HB.out.size _
      have hw1 : IntKind.i64.wrap ((s : Int) + (d.size : Int)) = ((s + d.size : Nat) : Int) := by rw [IntKind.wrap_i64]; omega
      generalize dtV (pcF p) p.length = T at hds HDT HC1
      have hw2 : IntKind.i64.wrap (((s + d.size : Nat) : Int) + (T.size : Int)) = ((s + d.size + T.size : Nat) : Int) := by rw [IntKind.wrap_i64]; omega
      generalize cb1 ⟨b, d, p⟩ = z at HSX HC1
      obtain ⟨s2, hs2⟩ : ∃ s2, s2 = s + d.size := ⟨_, rfl⟩
      rw [← hs2] at hw1 hw2
      have HS2 := dhid hs2
      clear hx hlx hd hsx hq hgl hsb hnp hss hds hd1 hs2 HS HPA
      by_cases hb1 : b = -1
      · subst hb1
        have HNEW : Hid (s2 = ((L.take (i + 1)).map cb1).sum) := by have h1 := HSX.out; have h2 := HC1.out; have h3 := HS2.out; rw [if_pos rfl] at h2; show s2 = _; omega
        clear HSX HC1 HS2
        go_wp2_with fail
        go_roundw
        case rel => exact ⟨i + 1, s2, by omega, by go_num, rfl, HNEW, HBX⟩
        case measure => simp [intN]; omega
      · have hbe : (b == -1) = false := beq_eq_false_iff_ne.2 hb1
        have HNEW : Hid (s2 + T.size = ((L.take (i + 1)).map cb1).sum) := by have h1 := HSX.out; have h2 := HC1.out; have h3 := HS2.out; rw [if_neg hb1] at h2; show s2 + T.size = _; omega
        clear HSX HC1 hb1 HS2
        go_wp2_with fail
        refine (HDT.out _ HBX.out).mono ?_
        rintro e w4 ⟨rfl, hb4⟩
        have HB4 := dhid (dblow HBX.out hb4 HBX.out.size)
        clear hb4 HBX x0 x1 x2 HDT
        go_wp2_with fail
        go_roundw
        case rel => exact ⟨i + 1, s2 + T.size, by omega, by go_num, by go_num, HNEW, HB4⟩
        case measure => simp [intN]; omega
    · obtain rfl : i = n := by omega
      have HE : Hid (s = cbN L) := by show s = cbN L; rw [HS.out, List.take_of_length_le (by have := HX.out.1; omega)]; rfl
      go_wp2_with fail
      go_ret
      exact ⟨by rw [← HE.out]; rfl, HB.out⟩
set_option maxRecDepth 100000 in
set_option maxHeartbeats 2000000 in
theorem scb_yes (g c n : Nat) (L : List LkI) (hLn : n = L.length) (w : World) (hl : LkLe L) (hcb : chB L = true) (hok : Calls Try.prog 14 #[.slice (some ⟨g, 0, none⟩) n c] w fun e w' => e = .returned (.bool true) ∧ Below w.heap.size w w') (hg : LkCells w g L) :
    Calls Try.prog 30 #[.slice (some ⟨g, 0, none⟩) n c] w fun e w' => e = .returned (.int .i64 (cbN L : Int)) ∧ Below w.heap.size w w' := by
  obtain ⟨V, hA⟩ := chB_some hcb
  have hn30 : n ≤ 30 := by have := (vAll_some hA).1; omega
  have hnI : (n : Int) ≤ 30 := by omega
  have HX : Hid (n = L.length ∧ LkLe L ∧ LkCells w g L ∧ chB L = true) := ⟨hLn, hl, hg, hcb⟩
  have HOK := dhid hok
  clear hg hl hLn hA hok hcb
  go_enter Try.func30, Try.ntmps30
  go_wp2_with fail
  refine HOK.out.mono ?_
  rintro e w3 ⟨rfl, hb3⟩
  have HB3 := dhid hb3
  clear hb3 HOK
  go_wp2_with fail
  go_loopw [3, 4] (fun u v wr => ∃ (i s : Nat), i ≤ n ∧ v = .int .i64 (i : Int) ∧ u = .int .i64 (s : Int) ∧ Hid (s = ((L.take i).map cb1).sum) ∧ Hid (Below w.heap.size w wr)) (fun _ v _ => n - (intN v).toNat)
  case atStart => exact ⟨0, 0, by omega, rfl, rfl, rfl, HB3⟩
  case round =>
    clear HB3
    obtain ⟨i, s, hi, rfl, rfl, HS, HB⟩ := hrel
    by_cases hlt : i < n
    · have hltI : (i : Int) < (n : Int) := by omega
      have hx := List.getElem?_eq_getElem (l := L) (i := i) (by have := HX.out.1; omega)
      have hlx := HX.out.2.1.one _ (List.mem_of_getElem? hx)
      have hbase := base_of HX.out.2.2.2 hx
      obtain ⟨pv, bs, x0, x1, x2, hd⟩ := HX.out.2.2.1.2 i _ hx
      have hgl := HX.out.2.2.1.1
      have hsb := cbT_le HX.out.2.1 i (by omega)
      have hsx := sum_take cb1 hx
      generalize L[i]'_ = x at hx hlx x0 x1 x2 hd hsx hbase
      have hpa := pcs_arg hd
      have HPA : Hid (∀ w', Below w.heap.size w w' → PcArg w' pv x.p.length (pcF x.p)) := fun w' hb' => hpa.below hb'
      obtain ⟨a1, c1, rfl, _⟩ := hpa
      obtain ⟨q, hq⟩ : ∃ q, q = 3 * i := ⟨_, rfl⟩
      have hiq : i * 3 = q := by omega
      rw [← hq] at x0 x1 x2
      rw [← HB.out.cell (p := ⟨g, q, none⟩) hgl] at x0
      rw [← HB.out.cell (p := ⟨g, q + 1, none⟩) hgl] at x1
      rw [← HB.out.cell (p := ⟨g, q + 2, none⟩) hgl] at x2
      obtain ⟨b, d, p⟩ := x
      simp only at x0 x1 x2 HPA hlx hbase
      obtain ⟨np, hnp⟩ : ∃ np, np = p.length := ⟨_, rfl⟩
      rw [← hnp] at x2 HPA
      have hds := dtV_size hlx.2.2
      have hd1 := hlx.1
      have hss : s ≤ i * 525351586 := by rw [HS.out]; exact hsb
      have HDT : Hid (∀ w', Below w.heap.size w w' → Calls Try.prog 47 #[.slice a1 np c1] w' fun e w2 => e = .returned (.string (dtV (pcF p) p.length)) ∧ Below w'.heap.size w' w2) := fun w' hb' => by
        have h1 := HPA.out w' hb'
        rw [hnp] at h1 ⊢
        exact sdt_any _ p.length (pcF p) w' hlx.2.2 h1
      have HSX : Hid (((L.take (i + 1)).map cb1).sum = s + cb1 ⟨b, d, p⟩) := by rw [HS.out]; exact hsx
      have HC1 : Hid (cb1 ⟨b, d, p⟩ = d.size + if b = -1 then 0 else (dtV (pcF p) p.length).size) := rfl
      have hw1 : IntKind.i64.wrap ((s : Int) + (d.size : Int)) = ((s + d.size : Nat) : Int) := by rw [IntKind.wrap_i64]; omega
      generalize dtV (pcF p) p.length = T at hds HDT HC1
      have hw2 : IntKind.i64.wrap (((s + d.size : Nat) : Int) + (T.size : Int)) = ((s + d.size + T.size : Nat) : Int) := by rw [IntKind.wrap_i64]; omega
      generalize cb1 ⟨b, d, p⟩ = z at HSX HC1
      obtain ⟨s2, hs2⟩ : ∃ s2, s2 = s + d.size := ⟨_, rfl⟩
      rw [← hs2] at hw1 hw2
      have HS2 := dhid hs2
      clear hx hlx hd hsx hq hgl hsb hnp hss hds hd1 hs2 HS HPA
      rcases hbase with hb1 | hb1
      · subst hb1
        have HNEW : Hid (s2 = ((L.take (i + 1)).map cb1).sum) := by have h1 := HSX.out; have h2 := HC1.out; have h3 := HS2.out; rw [if_pos rfl] at h2; show s2 = _; omega
        clear HSX HC1 HS2
        go_wp2_with fail
        go_roundw
        case rel => exact ⟨i + 1, s2, by omega, by go_num, rfl, HNEW, HB⟩
        case measure => simp [intN]; omega
      · have HNEW : Hid (s2 + T.size = ((L.take (i + 1)).map cb1).sum) := by have h1 := HSX.out; have h2 := HC1.out; have h3 := HS2.out; rw [if_neg (by omega)] at h2; show s2 + T.size = _; omega
        clear HSX HC1 HS2
        go_wp2_with fail
        refine (HDT.out _ HB.out).mono ?_
        rintro e w4 ⟨rfl, hb4⟩
        have HB4 := dhid (dblow HB.out hb4 HB.out.size)
        clear hb4 HB x0 x1 x2 HDT
        go_wp2_with fail
        go_roundw
        case rel => exact ⟨i + 1, s2 + T.size, by omega, by go_num, by go_num, HNEW, HB4⟩
        case measure => simp [intN]; omega
    · obtain rfl : i = n := by omega
      have HE : Hid (s = cbN L) := by show s = cbN L; rw [HS.out, List.take_of_length_le (by have := HX.out.1; omega)]; rfl
      go_wp2_with fail
      go_ret
      exact ⟨by rw [← HE.out]; rfl, HB.out⟩
set_option maxRecDepth 100000 in
theorem cb_any (v : Value) (L : List LkI) (bs : List Nat) (w : World) (hl : LkLe L) (h : Hd w (lksD L) v bs) :
    Calls Try.prog 31 #[v] w fun e w' => e = .returned (.int .i64 (cbI L)) ∧ Below w.heap.size w w' := by
  have hok := chain_any v L bs w hl h
  obtain ⟨a, c, rfl, hx⟩ := lks_at h
  cases hcb : chB L with
  | false =>
    rw [hcb] at hok
    have HV : Hid (cbI L = -1) := by show cbI L = -1; unfold cbI; rw [hcb]; rfl
    have HOK := dhid hok
    clear hcb hok hx h
    obtain ⟨n, hn⟩ : ∃ n, n = L.length := ⟨_, rfl⟩
    rw [← hn] at HOK ⊢
    clear hn
    go_enter Try.func31, Try.ntmps31
    go_wp2_with fail
    refine HOK.out.mono ?_
    rintro e w3 ⟨rfl, hb3⟩
    go_wp2_with fail
    go_ret
    exact ⟨by rw [HV.out]; rfl, hb3⟩
  | true =>
    rw [hcb] at hok
    have hV : cbI L = (cbN L : Int) := by unfold cbI; rw [hcb]; rfl
    rw [hV]
    by_cases h0 : 0 < L.length
    · obtain ⟨g, rfl, hg⟩ := hx h0
      exact cb_yes g c L.length L rfl w hl hcb hok hg
    · have e0 : L = [] := List.length_eq_zero_iff.1 (by omega)
      subst e0
      have HOK : Hid (Calls Try.prog 16 #[.slice a 0 c] w fun e w' => e = .returned (.bool true) ∧ Below w.heap.size w w') := hok
      clear hok hx h hcb hV h0
      show Calls Try.prog 31 #[.slice a 0 c] w fun e w' => e = .returned (.int .i64 0) ∧ Below w.heap.size w w'
      go_enter Try.func31, Try.ntmps31
      go_wp2_with fail
      refine HOK.out.mono ?_
      rintro e w3 ⟨rfl, hb3⟩
      go_wp2_with fail
      refine wp_loop_rounds 1 ?_
      rw [rounds_succ]
      go_wp2_with fail
      go_ret
      exact ⟨rfl, hb3⟩
set_option maxRecDepth 100000 in
theorem scb_any (v : Value) (L : List LkI) (bs : List Nat) (w : World) (hl : LkLe L) (h : Hd w (lksD L) v bs) :
    Calls Try.prog 30 #[v] w fun e w' => e = .returned (.int .i64 (cbI L)) ∧ Below w.heap.size w w' := by
  have hok := schain_any v L bs w hl h
  obtain ⟨a, c, rfl, hx⟩ := lks_at h
  cases hcb : chB L with
  | false =>
    rw [hcb] at hok
    have HV : Hid (cbI L = -1) := by show cbI L = -1; unfold cbI; rw [hcb]; rfl
    have HOK := dhid hok
    clear hcb hok hx h
    obtain ⟨n, hn⟩ : ∃ n, n = L.length := ⟨_, rfl⟩
    rw [← hn] at HOK ⊢
    clear hn
    go_enter Try.func30, Try.ntmps30
    go_wp2_with fail
    refine HOK.out.mono ?_
    rintro e w3 ⟨rfl, hb3⟩
    go_wp2_with fail
    go_ret
    exact ⟨by rw [HV.out]; rfl, hb3⟩
  | true =>
    rw [hcb] at hok
    have hV : cbI L = (cbN L : Int) := by unfold cbI; rw [hcb]; rfl
    rw [hV]
    by_cases h0 : 0 < L.length
    · obtain ⟨g, rfl, hg⟩ := hx h0
      exact scb_yes g c L.length L rfl w hl hcb hok hg
    · have e0 : L = [] := List.length_eq_zero_iff.1 (by omega)
      subst e0
      have HOK : Hid (Calls Try.prog 14 #[.slice a 0 c] w fun e w' => e = .returned (.bool true) ∧ Below w.heap.size w w') := hok
      clear hok hx h hcb hV h0
      show Calls Try.prog 30 #[.slice a 0 c] w fun e w' => e = .returned (.int .i64 0) ∧ Below w.heap.size w w'
      go_enter Try.func30, Try.ntmps30
      go_wp2_with fail
      refine HOK.out.mono ?_
      rintro e w3 ⟨rfl, hb3⟩
      go_wp2_with fail
      refine wp_loop_rounds 1 ?_
      rw [rounds_succ]
      go_wp2_with fail
      go_ret
      exact ⟨rfl, hb3⟩
end Go.Proofs.Ytpeddaljgmkomaa

/-!   What the specification's DeltaOf answers. -/
namespace Go.Proofs.Ytpeddaljgmkomaa
open Go.RowKit
set_option linter.unusedVariables false
set_option linter.unusedSimpArgs false
set_option maxRecDepth 100000 in
set_option maxHeartbeats 8000000 in
theorem sdo_go (o s : ByteArray) (w : World) (ho : o.size ≤ 4000) (hs : s.size ≤ 4000) :
    Calls Try.prog 46 #[.string o, .string s] w fun e w' => DoPost w (doD o s) e w' := by
  obtain ⟨Z, hZ⟩ : ∃ Z, Z = doL o s := ⟨_, rfl⟩
  have HZ0 : Hid (Z = dl o s s.size 0 0 []) := hZ
  obtain ⟨A, hA⟩ : ∃ A, A = doD o s := ⟨_, rfl⟩
  have HAN : Hid (500 < Z.length → A = none) := fun h => by rw [hA]; unfold doD; rw [if_neg (by omega), if_pos (by rw [← hZ]; exact h)]
  have HAY : Hid (¬ 500 < Z.length → A = some Z) := fun h => by rw [hA]; unfold doD; rw [if_neg (by omega), ← hZ, if_neg h]
  rw [← hA]
  obtain ⟨i0, hi, hz0, hz1, hz2⟩ := info_parts Try.infP
  have hoI : ¬ (4000 : Int) < (o.size : Int) := by omega
  have hsI : ¬ (4000 : Int) < (s.size : Int) := by omega
  have HD0 : Hid (DO w (w.alloc (.cells #[] 89)) (.slice (some ⟨w.heap.size, 0, none⟩) 0 0) []) := by
    have h := World.ownsRow_made w #[] 0 (e := 89) (base := w.heap.size) (size := 3) (Nat.le_refl _) (by unfold maxLen; omega) rfl
    exact ⟨by simpa [pcC] using h, (Below.refl _ _).alloc (Nat.le_refl _) _⟩
  have HE0 : Hid ((⟨#[]⟩ : ByteArray) = s.extract 0 0) := by
    show _ = _
    exact (do_zero (by rw [ByteArray.size_extract]; omega)).symm
  clear hZ hA
  go_enter Try.func46, Try.ntmps46
  go_wp2_with fail
  generalize w.alloc (.cells #[] 89) = W at HD0 ⊢
  go_loopw [6, 7, 8] (fun x d c wr => ∃ (k a t : Nat) (acc : List PcI) (v : Value), v = x ∧ t ≤ a ∧ a ≤ s.size ∧ s.size ≤ a + k ∧ acc.length ≤ t ∧ d = .string (s.extract t a) ∧ c = .int .i64 (a : Int) ∧ Hid (Z = dl o s k a t acc) ∧ Hid (DO w wr v acc)) (fun _ _ c _ => s.size - (lonIntOf c).toNat)
  case atStart => exact ⟨s.size, 0, 0, [], _, rfl, by omega, by omega, by omega, by simp, by rw [← HE0.out], rfl, HZ0, HD0⟩
  case round =>
    clear HD0 HZ0 HE0
    obtain ⟨k, a, t, acc, v, rfl, hta, has, hk, hal, rfl, rfl, HZ, HD⟩ := hrel
    by_cases hlt : a < s.size
    · have hltI : (a : Int) < (s.size : Int) := by omega
      obtain ⟨k, rfl⟩ : ∃ j, k = j + 1 := ⟨k - 1, by omega⟩
      obtain ⟨B, hB⟩ : ∃ B : Nat → Nat × Nat, B = best (fo o s a) := ⟨_, rfl⟩
      have HM : Hid (∀ p, (B p).2 < fo o s a (p + 1) → B (p + 1) = (p + 1, fo o s a (p + 1))) := fun p h => by rw [hB] at h ⊢; exact best_more h
      have HL : Hid (∀ p, ¬ (B p).2 < fo o s a (p + 1) → B (p + 1) = B p) := fun p h => by rw [hB] at h ⊢; exact best_less h
      have HF : Hid (∀ p n, n ≤ clM o s p a → (∀ j, j < n → bsOf o (p + j) = bsOf s (a + j)) → (n = clM o s p a ∨ bsOf o (p + n) ≠ bsOf s (a + n)) → fo o s a (p + 1) = n) := fun p n h1 h2 h3 => by
        show cl o s (p + 1 - 1) a = n
        rw [Nat.add_sub_cancel]; exact cl_eq h1 h2 h3
      have HBO : Hid (bo o s a = B o.size) := by rw [hB]; rfl
      have HBZ : Hid (B 0 = (0, 0)) := by rw [hB]; rfl
      have HLT := hid hlt
      have HTA : Hid (t ≤ a ∧ a < s.size ∧ s.size ≤ a + (k + 1) ∧ acc.length ≤ t) := ⟨hta, hlt, hk, hal⟩
      clear hB
      generalize hfo : fo o s a = f at HM HL HF
      generalize hQ : s.extract t a = Q
      have HQ := hid hQ
      clear hQ hfo
      go_wp2_with fail
      go_loopw [9, 10, 11] (fun x y c wr => ∃ p : Nat, p ≤ o.size ∧ x = .int .i64 ((((B p).1 - 1 : Nat)) : Int) ∧ y = .int .i64 ((B p).2 : Nat) ∧ c = .int .i64 (p : Int) ∧ Hid (DO w wr v acc)) (fun _ _ c _ => o.size - (lonIntOf c).toNat)
      case atStart => exact ⟨0, by omega, by rw [HBZ.out]; rfl, by rw [HBZ.out]; rfl, rfl, HD⟩
      case round =>
        clear HD
        obtain ⟨p, hp, rfl, rfl, rfl, HD⟩ := hrel
        by_cases hpl : p < o.size
        · have hpI : (p : Int) < (o.size : Int) := by omega
          have HMM := hid (HM.out p)
          have HLL := hid (HL.out p)
          have HF1 := hid (HF.out p)
          generalize hDD : (B p).1 - 1 = D at *
          generalize hN : (B p).2 = N0 at *
          rename World => wx
          go_wp2_with fail
          go_loopw [12] (fun c wr => ∃ n : Nat, n ≤ clM o s p a ∧ c = .int .i64 (n : Int) ∧ Hid (∀ j, j < n → bsOf o (p + j) = bsOf s (a + j)) ∧ Hid (DO w wr v acc)) (fun c _ => 4000 - (lonIntOf c).toNat)
          case atStart => exact ⟨0, by omega, rfl, fun j hj => absurd hj (by omega), HD⟩
          case round =>
            clear HD
            obtain ⟨n, hn, rfl, HE, HD⟩ := hrel
            have hcm : clM o s p a = min (o.size - p) (s.size - a) := rfl
            obtain ⟨q1, hq1⟩ : ∃ q, q = p + n := ⟨_, rfl⟩
            obtain ⟨q2, hq2⟩ : ∃ q, q = a + n := ⟨_, rfl⟩
            have hw1 : IntKind.i64.wrap ((p : Int) + (n : Int)) = (q1 : Int) := by rw [IntKind.wrap_i64]; omega
            have hw2 : IntKind.i64.wrap ((a : Int) + (n : Int)) = (q2 : Int) := by rw [IntKind.wrap_i64]; omega
            by_cases hL1 : q1 < o.size
            · have hy1 : (q1 : Int) < (o.size : Int) := by omega
              by_cases hL2 : q2 < s.size
              · have hy2 : (q2 : Int) < (s.size : Int) := by omega
                have b1 := bsOf_at o q1 hL1
                have b2 := bsOf_at s q2 hL2
                have l1 := bsOf_lt o q1
                have l2 := bsOf_lt s q2
                by_cases heq : bsOf o q1 = bsOf s q2
                · have HE2 : Hid (∀ j, j < n + 1 → bsOf o (p + j) = bsOf s (a + j)) := fun j hj => by
                    by_cases e : j = n
                    · subst e; rw [← hq1, ← hq2]; exact heq
                    · exact HE.out j (by omega)
                  have hn1 : n + 1 ≤ clM o s p a := by omega
                  have HN1 := hid hn1
                  have hn4 : n + 1 ≤ 4000 := by omega
                  rw [heq] at b1
                  generalize bsOf s q2 = c2 at b1 b2 l2
                  clear heq l1 HE hq1 hq2 hcm hn hn1
                  go_wp2_with fail
                  go_quiet (fail)
                  go_wp2_with fail
                  go_roundw
                  case rel => exact ⟨n + 1, HN1.out, by go_num, HE2, HD.out.drewN _⟩
                  case measure => simp [lonIntOf]; omega
                · have hne : ¬ ((bsOf o q1 : Nat) : Int) = ((bsOf s q2 : Nat) : Int) := by omega
                  have hne' : (((bsOf o q1 : Nat) : Int) == ((bsOf s q2 : Nat) : Int)) = false := beq_eq_false_iff_ne.2 hne
                  have hpf : n = clM o s p a ∨ bsOf o (p + n) ≠ bsOf s (a + n) := Or.inr (by rw [← hq1, ← hq2]; exact heq)
                  have hf : f (p + 1) = n := HF1.out n hn HE.out hpf
                  clear hq1 hq2 hcm heq hpf
                  generalize bsOf o q1 = c1 at b1 l1 hne hne'
                  generalize bsOf s q2 = c2 at b2 l2 hne hne'
                  by_cases hl : N0 < n
                  · have hl1 : (N0 : Int) < (n : Int) := by omega
                    have hnew := HMM.out (by rw [hf]; exact hl)
                    rw [hf] at hnew
                    have HNEW : Hid _ := hnew
                    clear hnew hf
                    go_wp2_with fail
                    go_quiet (fail)
                    go_wp2_with fail
                    go_roundw
                    case rel => exact ⟨p + 1, by omega, by rw [HNEW.out]; show _ = Value.int .i64 ((p + 1 - 1 : Nat) : Int); rw [Nat.add_sub_cancel], by rw [HNEW.out], by go_num, HD.out.drewN _⟩
                    case measure => simp [lonIntOf]; omega
                  · have hl1 : ¬ (N0 : Int) < (n : Int) := by omega
                    have hnew := HLL.out (by rw [hf]; exact hl)
                    have HNEW : Hid _ := hnew
                    clear hnew hf
                    go_wp2_with fail
                    go_quiet (fail)
                    go_wp2_with fail
                    go_roundw
                    case rel => exact ⟨p + 1, by omega, by rw [HNEW.out, hDD], by rw [HNEW.out, hN], by go_num, HD.out.drewN _⟩
                    case measure => simp [lonIntOf]; omega
              · have hy2 : ¬ (q2 : Int) < (s.size : Int) := by omega
                have hLd : decide ((q2 : Int) < (s.size : Int)) = false := decide_eq_false hy2
                have hLd2 : decide (q2 < s.size) = false := decide_eq_false hL2
                have hpf : n = clM o s p a ∨ bsOf o (p + n) ≠ bsOf s (a + n) := Or.inl (by omega)
                have hf : f (p + 1) = n := HF1.out n hn HE.out hpf
                clear hq1 hq2 hcm hpf
                by_cases hl : N0 < n
                · have hl1 : (N0 : Int) < (n : Int) := by omega
                  have hnew := HMM.out (by rw [hf]; exact hl)
                  rw [hf] at hnew
                  have HNEW : Hid _ := hnew
                  clear hnew hf
                  go_wp2_with fail
                  go_quiet (fail)
                  go_wp2_with fail
                  go_roundw
                  case rel => exact ⟨p + 1, by omega, by rw [HNEW.out]; show _ = Value.int .i64 ((p + 1 - 1 : Nat) : Int); rw [Nat.add_sub_cancel], by rw [HNEW.out], by go_num, HD.out.drewN _⟩
                  case measure => simp [lonIntOf]; omega
                · have hl1 : ¬ (N0 : Int) < (n : Int) := by omega
                  have hnew := HLL.out (by rw [hf]; exact hl)
                  have HNEW : Hid _ := hnew
                  clear hnew hf
                  go_wp2_with fail
                  go_quiet (fail)
                  go_wp2_with fail
                  go_roundw
                  case rel => exact ⟨p + 1, by omega, by rw [HNEW.out, hDD], by rw [HNEW.out, hN], by go_num, HD.out.drewN _⟩
                  case measure => simp [lonIntOf]; omega
            · have hy1 : ¬ (q1 : Int) < (o.size : Int) := by omega
              have hLd : decide ((q1 : Int) < (o.size : Int)) = false := decide_eq_false hy1
              have hLd2 : decide (q1 < o.size) = false := decide_eq_false hL1
              have hpf : n = clM o s p a ∨ bsOf o (p + n) ≠ bsOf s (a + n) := Or.inl (by omega)
              have hf : f (p + 1) = n := HF1.out n hn HE.out hpf
              clear hq1 hq2 hcm hpf
              by_cases hl : N0 < n
              · have hl1 : (N0 : Int) < (n : Int) := by omega
                have hnew := HMM.out (by rw [hf]; exact hl)
                rw [hf] at hnew
                have HNEW : Hid _ := hnew
                clear hnew hf
                go_wp2_with fail
                go_quiet (fail)
                go_wp2_with fail
                go_roundw
                case rel => exact ⟨p + 1, by omega, by rw [HNEW.out]; show _ = Value.int .i64 ((p + 1 - 1 : Nat) : Int); rw [Nat.add_sub_cancel], by rw [HNEW.out], by go_num, HD.out.drewN _⟩
                case measure => simp [lonIntOf]; omega
              · have hl1 : ¬ (N0 : Int) < (n : Int) := by omega
                have hnew := HLL.out (by rw [hf]; exact hl)
                have HNEW : Hid _ := hnew
                clear hnew hf
                go_wp2_with fail
                go_quiet (fail)
                go_wp2_with fail
                go_roundw
                case rel => exact ⟨p + 1, by omega, by rw [HNEW.out, hDD], by rw [HNEW.out, hN], by go_num, HD.out.drewN _⟩
                case measure => simp [lonIntOf]; omega
        · obtain rfl : p = o.size := by omega
          have hble := bo_le o s a
          rw [HBO.out] at hble
          obtain ⟨hd1, hn1, _⟩ := hble
          obtain ⟨hta, hlt, hk, hal⟩ := HTA.out
          have HPC : Hid (¬ (bo o s a).2 < 6 → Z = dl o s k (a + (B o.size).2) (a + (B o.size).2) (wDat acc Q ++ [⟨((B o.size).1 - 1 : Nat), ((B o.size).2 : Nat), ⟨#[]⟩⟩])) := fun h => by rw [HZ.out, dl_piece hlt h, HBO.out, HQ.out]
          have HBY : Hid ((bo o s a).2 < 6 → Z = dl o s k (a + 1) t acc) := fun h => by rw [HZ.out, dl_byte hlt h]
          rw [HBO.out] at HPC HBY
          generalize (B o.size).1 - 1 = D at HPC ⊢
          generalize (B o.size).2 = n at hn1 HPC HBY ⊢
          clear HZ HBO hd1 HM HL HF HBZ
          by_cases h6 : n < 6
          · have h6I : (n : Int) < 6 := by omega
            have HZ2 := hid (HBY.out h6)
            have HQ2 : Hid (s.extract t (a + 1) = Q ++ s.extract a (a + 1)) := by show _ = _; rw [← HQ.out]; exact (do_ext s t a (a + 1) hta (by omega) (by omega)).symm
            have hx1 : (a : Int) ≤ (a : Int) + 1 := by omega
            have hx2 : (a : Int) + 1 ≤ (s.size : Int) := by omega
            have hx3 : ((a : Int) + 1).toNat = a + 1 := by omega
            have hqs : Q.size ≤ 4000 := by rw [← HQ.out, ByteArray.size_extract]; omega
            have hxs : (s.extract a (a + 1)).size ≤ 4000 := by rw [ByteArray.size_extract]; omega
            have hqm : ¬ maxLen < Q.size + (s.extract a (a + 1)).size := by unfold maxLen; omega
            have hqm2 : Q.size + (s.extract a (a + 1)).size ≤ 9223372036854775807 := by omega
            clear HPC HBY
            go_wp2_with fail
            go_roundw
            case rel => exact ⟨k, a + 1, t, acc, _, rfl, by omega, by omega, by omega, hal, by rw [HQ2.out], by go_num, HZ2, HD⟩
            case measure => simp [lonIntOf]; omega
          · have h6I : ¬ (n : Int) < 6 := by omega
            have HZ2 := hid (HPC.out h6)
            have HE : Hid ((⟨#[]⟩ : ByteArray) = s.extract (a + n) (a + n)) := by
              show _ = _
              exact (do_zero (by rw [ByteArray.size_extract]; omega)).symm
            clear HPC HBY
            by_cases hq0 : Q.size = 0
            · have hQe := do_zero hq0
              rw [wDat_no hq0] at HZ2
              subst hQe
              clear hq0
              go_wp2_with (at_builtin; (refine wpList_append_own _ rfl _ _ 52 rfl w.heap.size 89 i0 _ 3 32 Try.underlying52 hi hz0 hz1 hz2 rfl (by decide) _ _ _ rfl (HD.out.own.alloc _) ⟨wr.heap.size, 0, none⟩ 1 1 [_, _, _] rfl rfl (cell_three_at rfl) ?c2 ?c3 ?c4 ?c5 ?_))
              case c2 => first | exact three_one _ _ _ | exact ⟨rfl, rfl⟩ | simp [Value.oneCell']
              case c3 => unfold maxLen; omega
              case c4 => omega
              case c5 => have := HD.out.below.size; first | omega | (rw [World.size_alloc]; omega)
              intro v' w4 hown' hgrow _
              have HD4 := hid (HD.out.put (p := ⟨(D : Int), (n : Int), ⟨#[]⟩⟩) _ hown' hgrow)
              clear hown' hgrow HD
              go_wp2_with fail
              go_roundw
              case rel => exact ⟨k, a + n, a + n, _, _, rfl, by omega, by omega, by omega, by simp; omega, by rw [← HE.out], by go_num, HZ2, HD4⟩
              case measure => simp [lonIntOf]; omega
            · have hQe := do_ne (d := Q) (by omega)
              rw [wDat_yes hq0] at HZ2
              clear hq0
              go_wp2_with (at_builtin; (refine wpList_append_own _ rfl _ _ 52 rfl w.heap.size 89 i0 _ 3 32 Try.underlying52 hi hz0 hz1 hz2 rfl (by decide) _ _ _ rfl (HD.out.own.alloc _) ⟨wr.heap.size, 0, none⟩ 1 1 [_, _, _] rfl rfl (cell_three_at rfl) ?c2 ?c3 ?c4 ?c5 ?_))
              case c2 => first | exact three_one _ _ _ | exact ⟨rfl, rfl⟩ | simp [Value.oneCell']
              case c3 => unfold maxLen; omega
              case c4 => omega
              case c5 => have := HD.out.below.size; first | omega | (rw [World.size_alloc]; omega)
              intro v' w4 hown' hgrow _
              have HD4 := hid (HD.out.put (p := ⟨0, 0, Q⟩) _ hown' hgrow)
              have hl4 : (acc ++ [(⟨0, 0, Q⟩ : PcI)]).length = acc.length + 1 := by simp
              clear hown' hgrow HD
              go_wp2_with (at_builtin; (refine wpList_append_own _ rfl _ _ 52 rfl w.heap.size 89 i0 _ 3 32 Try.underlying52 hi hz0 hz1 hz2 rfl (by decide) _ _ _ rfl (HD4.out.own.alloc _) ⟨w4.heap.size, 0, none⟩ 1 1 [_, _, _] rfl rfl (cell_three_at rfl) ?c2 ?c3 ?c4 ?c5 ?_))
              case c2 => first | exact three_one _ _ _ | exact ⟨rfl, rfl⟩ | simp [Value.oneCell']
              case c3 => unfold maxLen; omega
              case c4 => omega
              case c5 => have := HD4.out.below.size; first | omega | (rw [World.size_alloc]; omega)
              intro v'' w5 hown' hgrow _
              have HD5 := hid (HD4.out.put (p := ⟨(D : Int), (n : Int), ⟨#[]⟩⟩) _ (by rw [hl4]; exact hown') hgrow)
              clear hown' hgrow HD4
              go_wp2_with fail
              go_roundw
              case rel => exact ⟨k, a + n, a + n, _, _, rfl, by omega, by omega, by omega, by simp; omega, by rw [← HE.out], by go_num, HZ2, HD5⟩
              case measure => simp [lonIntOf]; omega
    · obtain rfl : a = s.size := by omega
      have hze : Z = wDat acc (s.extract t s.size) := by rw [HZ.out, dl_end hlt]
      generalize hQ : s.extract t s.size = Q at hze ⊢
      clear HZ
      by_cases hq0 : Q.size = 0
      · have hQe := do_zero hq0
        rw [wDat_no hq0] at hze
        subst hze
        obtain ⟨ra, rc, rfl⟩ := own3_slice HD.out.own
        subst hQe
        clear hq0 hQ
        by_cases h5 : 500 < Z.length
        · have h5I : (500 : Int) < (Z.length : Int) := by omega
          obtain rfl := HAN.out h5
          go_wp2_with fail
          go_ret2
          exact do_nil HD.out.below
        · have h5I : ¬ (500 : Int) < (Z.length : Int) := by omega
          obtain rfl := HAY.out h5
          go_wp2_with fail
          go_ret2
          exact ⟨⟨_, rfl, HD.out.own⟩, HD.out.below⟩
      · have hQe := do_ne (d := Q) (by omega)
        rw [wDat_yes hq0] at hze
        have hzl : Z.length = acc.length + 1 := by rw [hze]; simp
        clear hq0 hQ
        go_wp2_with (at_builtin; (refine wpList_append_own _ rfl _ _ 52 rfl w.heap.size 89 i0 _ 3 32 Try.underlying52 hi hz0 hz1 hz2 rfl (by decide) _ _ _ rfl (HD.out.own.alloc _) ⟨wr.heap.size, 0, none⟩ 1 1 [_, _, _] rfl rfl (cell_three_at rfl) ?c2 ?c3 ?c4 ?c5 ?_))
        case c2 => first | exact three_one _ _ _ | exact ⟨rfl, rfl⟩ | simp [Value.oneCell']
        case c3 => unfold maxLen; omega
        case c4 => omega
        case c5 => have := HD.out.below.size; first | omega | (rw [World.size_alloc]; omega)
        intro v' w4 hown' hgrow _
        have HD4 := hid (HD.out.put (p := ⟨0, 0, Q⟩) _ hown' hgrow)
        rw [← hze] at HD4
        clear hown' hgrow HD hze
        obtain ⟨ra, rc, rfl⟩ := own3_slice HD4.out.own
        by_cases h5 : 500 < Z.length
        · have h5I : (500 : Int) < (Z.length : Int) := by omega
          obtain rfl := HAN.out h5
          clear hzl
          go_wp2_with fail
          go_ret2
          exact do_nil HD4.out.below
        · have h5I : ¬ (500 : Int) < (Z.length : Int) := by omega
          obtain rfl := HAY.out h5
          clear hzl
          go_wp2_with fail
          go_ret2
          exact ⟨⟨_, rfl, HD4.out.own⟩, HD4.out.below⟩
theorem sdos_big (o s : ByteArray) (w : World) (h : 4000 < o.size ∨ 4000 < s.size) (ho : o.size ≤ 1048576) (hs : s.size ≤ 1048576) :
    Calls Try.prog 46 #[.string o, .string s] w fun e w' => DoPost w (doD o s) e w' := by
  have e : doD o s = none := by unfold doD; rw [if_pos h]
  rw [e]
  by_cases h1 : 4000 < o.size
  · have h1I : (4000 : Int) < (o.size : Int) := by omega
    clear h e
    go_enter Try.func46, Try.ntmps46
    go_wp2_with fail
    go_ret2
    exact do_nil (Below.refl _ _)
  · have h1I : ¬ (4000 : Int) < (o.size : Int) := by omega
    have h2I : (4000 : Int) < (s.size : Int) := by omega
    clear h e
    go_enter Try.func46, Try.ntmps46
    go_wp2_with fail
    go_ret2
    exact do_nil (Below.refl _ _)
theorem sdos_any (o s : ByteArray) (w : World) (ho : o.size ≤ 1048576) (hs : s.size ≤ 1048576) :
    Calls Try.prog 46 #[.string o, .string s] w fun e w' => DoPost w (doD o s) e w' := by
  by_cases h : 4000 < o.size ∨ 4000 < s.size
  · exact sdos_big o s w h ho hs
  · exact sdo_go o s w (by omega) (by omega)
end Go.Proofs.Ytpeddaljgmkomaa

/-!   A version added: the specification's. -/
namespace Go.Proofs.Ytpeddaljgmkomaa
open Go.RowKit
set_option linter.unusedVariables false
set_option linter.unusedSimpArgs false
theorem own_sliceA {w : World} {B e size : Nat} {v : Value} {n : Nat} {xs : List Value} (h : w.ownsRow B e size v n xs) : ∃ a m c, v = .slice a m c := by
  obtain ⟨_, ⟨rfl, _⟩ | ⟨g, cap, cur, rfl, _⟩⟩ := h
  · exact ⟨_, _, _, rfl⟩
  · exact ⟨_, _, _, rfl⟩
theorem Gl.base {w : World} {lo lo' e k n : Nat} {T : Nat → Prop} {v : Value} {us : List Value} {ds : List Dd} (h : Gl w lo e k T v n us ds) (hl : lo' ≤ lo) : Gl w lo' e k T v n us ds :=
  ⟨by
    obtain ⟨h0, h1 | ⟨g, cap, cur, h1, h2, h3⟩⟩ := h.row
    · exact ⟨h0, Or.inl h1⟩
    · exact ⟨h0, Or.inr ⟨g, cap, cur, h1, Nat.le_trans hl h2, h3⟩⟩, h.nst.base hl, h.ty, h.ne⟩
theorem Gl.keep {w w' : World} {lo e k n : Nat} {T : Nat → Prop} {v : Value} {us : List Value} {ds : List Dd} (h : Gl w lo e k T v n us ds) (hk : ∀ b, lo ≤ b → b < w.heap.size → w'.heap[b]? = w.heap[b]?) : Gl w' lo e k T v n us ds :=
  ⟨by
    obtain ⟨h0, h1 | ⟨g, cap, cur, h1, h2, h3, h4⟩⟩ := h.row
    · exact ⟨h0, Or.inl h1⟩
    · exact ⟨h0, Or.inr ⟨g, cap, cur, h1, h2, (hk g h2 (Array.getElem?_eq_some_iff.1 h3).1).trans h3, h4⟩⟩, h.nst.keep hk, h.ty, h.ne⟩
theorem gl_lkG {w : World} {lo n : Nat} {v : Value} {us : List Value} {L : List LkI} {x : LkI} (h : Gl w lo 54 3 isPc v (n + 1) us (L.flatMap lkDs ++ lkDs x)) (hn : n = L.length) : Gl w lo 54 3 isPc v (L ++ [x]).length us ((L ++ [x]).flatMap lkDs) := by
  rw [lks_snoc] at h
  rw [List.length_append, ← hn]
  exact h
/-- what the specification's AddVersion tells: a list that may still grow -/
def SaPost (w : World) (R : Option (List LkI)) (e : Ending) (w' : World) : Prop :=
  (match R with | some M => ∃ v us, e = .returned (.tuple #[v, .bool true]) ∧ Gl w' w.heap.size 54 3 isPc v M.length us (M.flatMap lkDs) | none => e = .returned (.tuple #[.slice none 0 0, .bool false])) ∧ Below w.heap.size w w'
theorem SaPost.no {w w' : World} {R : Option (List LkI)} (h : R = none) (hb : Below w.heap.size w w') : SaPost w R (.returned (.tuple #[.slice none 0 0, .bool false])) w' := by
  subst h
  exact ⟨rfl, hb⟩
theorem SaPost.yes {w w' : World} {R : Option (List LkI)} {M : List LkI} {v : Value} {us : List Value} (h : R = some M) (ho : Gl w' w.heap.size 54 3 isPc v M.length us (M.flatMap lkDs)) (hb : Below w.heap.size w w') : SaPost w R (.returned (.tuple #[v, .bool true])) w' := by
  subst h
  exact ⟨⟨v, us, rfl, ho⟩, hb⟩
theorem SaPost.lk {w w' : World} {R : Option (List LkI)} {e : Ending} (h : SaPost w R e w') : LkPost w R e w' := by
  cases R with
  | none =>
    obtain ⟨h1, hb⟩ := h
    have h1 : e = .returned (.tuple #[.slice none 0 0, .bool false]) := h1
    subst h1
    exact LkPost.no rfl hb
  | some M =>
    obtain ⟨⟨v, us, h1, hg⟩, hb⟩ := h
    subst h1
    exact LkPost.yes rfl (hg.own (by omega) (fm_len lkDs_len M)) hb
set_option maxRecDepth 100000 in
set_option maxHeartbeats 2000000 in
theorem saddG_any (v : Value) (L : List LkI) (bs : List Nat) (s : ByteArray) (k : Int) (w : World) (hs : s.size ≤ 1048576) (hl : LkLe L) (h : Hd w (lksD L) v bs) :
    Calls Try.prog 22 #[v, .string s, .int .i64 k] w fun e w' => SaPost w (avR L s k) e w' := by
  obtain ⟨a, c, rfl, hx⟩ := lks_at h
  have HVS : Hid (Calls Try.prog 38 #[.slice a L.length c] w fun e w2 => SvPost w (vAll L) e w2) := sv_any _ L bs w hl h
  have HIY : Hid (∀ (x lo hi : Int) w, lo ≤ x → x ≤ hi → Calls Try.prog 42 #[.int .i64 x, .int .i64 lo, .int .i64 hi] w fun e w' => e = .returned (.bool true) ∧ w' = w) := fun x lo hi w h1 h2 => in_yes x lo hi w h1 h2
  have HIN : Hid (∀ (x lo hi : Int) w, ¬ (lo ≤ x ∧ x ≤ hi) → Calls Try.prog 42 #[.int .i64 x, .int .i64 lo, .int .i64 hi] w fun e w' => e = .returned (.bool false) ∧ w' = w) := fun x lo hi w h => in_no x lo hi w h
  have hsI : (s.size : Int) ≤ 1048576 := by omega
  have HLEN := hl.len
  have HH := dhid h
  have HX0 := dhid hx
  obtain ⟨i0, hi0, hz0, hz1, hz2⟩ := info_parts Try.infLk
  obtain ⟨n, hn⟩ : ∃ n, n = L.length := ⟨_, rfl⟩
  rw [← hn] at HVS HLEN HH HX0 ⊢
  have HN := dhid hn
  have hw1 : IntKind.i64.wrap ((n : Int) - 1) = (n : Int) - 1 := by rw [IntKind.wrap_i64]; omega
  clear h hn hx
  cases hA : vAll L with
  | none =>
    have HR := dhid (avR_none (s := s) (k := k) hA)
    rw [hA] at HVS
    clear hA
    go_enter Try.func22, Try.ntmps22
    go_wp2_with fail
    refine HVS.out.mono ?_
    rintro e w3 ⟨hpost, hb3⟩
    have hpost2 : e = .returned (.tuple #[.slice none 0 0, .bool false]) := hpost
    subst hpost2
    have HB3 := dhid hb3
    clear hb3 hpost HVS
    go_wp2_with fail
    go_ret2
    exact SaPost.no HR.out HB3.out
  | some V =>
    have HVS2 : Hid (Calls Try.prog 38 #[.slice a n c] w fun e w2 => (∃ x, e = .returned (.tuple #[x, .bool true]) ∧ w2.ownsRow w.heap.size 9 1 x V.length (vtC V)) ∧ Below w.heap.size w w2) := by
      rw [hA] at HVS; exact HVS
    have hG := lkG_of hl hA
    have hn30 := (vAll_some hA).1
    have hVF := (vAll_some hA).2.1
    have hVl := (vAll_some hA).2.2
    rw [← HN.out] at hn30 hVl
    have HVL := dhid hVl
    have HCPW : Hid (∀ w', Below w.heap.size w w' → Calls Try.prog 45 #[.slice a n c] w' fun e w2 => (∃ v us, e = .returned v ∧ Gl w2 w'.heap.size 54 3 isPc v n us (L.flatMap lkDs)) ∧ Below w'.heap.size w' w2) := fun w' hb => by
      have h := scpLk_gl _ L bs w' (by rw [← HN.out]; exact hn30) hG (HH.out.under hb)
      rw [← HN.out] at h
      exact h
    have HVF := dhid hVF
    clear HVS HLEN hVF hVl
    go_enter Try.func22, Try.ntmps22
    go_wp2_with fail
    refine HVS2.out.mono ?_
    rintro e w3 ⟨⟨xv, rfl, hm⟩, hb3⟩
    have HM := dhid hm
    have HB3 := dhid hb3
    obtain ⟨xa, xn, xc, rfl⟩ : ∃ xa xn xc, xv = .slice xa xn xc := own_sliceA hm
    have HCP : Hid (Calls Try.prog 45 #[.slice a n c] w3 fun e w2 => (∃ v us, e = .returned v ∧ Gl w2 w3.heap.size 54 3 isPc v n us (L.flatMap lkDs)) ∧ Below w3.heap.size w3 w2) := HCPW.out _ hb3
    clear hb3 HVS2 hm HCPW
    by_cases hn29 : n < 30
    · have hnI : ¬ (30 : Int) ≤ (n : Int) := by omega
      by_cases hs4 : s.size ≤ 4000
      · have hs4I : ¬ (4000 : Int) < (s.size : Int) := by omega
        by_cases hin : -1 ≤ k ∧ k ≤ (n : Int) - 1
        · have HC : Hid (L.length < 30 ∧ s.size ≤ 4000 ∧ -1 ≤ k ∧ k ≤ (L.length : Int) - 1) := ⟨by rw [← HN.out]; exact hn29, hs4, hin.1, by rw [← HN.out]; exact hin.2⟩
          by_cases h0 : 0 ≤ k
          · obtain ⟨m, hmk⟩ : ∃ m, m = k.toNat := ⟨_, rfl⟩
            obtain rfl : (m : Int) = k := by omega
            have hmn : m < n := by omega
            have hmI : (m : Int) < (n : Int) := by omega
            have ho := List.getElem?_eq_getElem (l := V) (i := m) (by have := HVL.out; omega)
            have hob := vF_bd HVF.out _ (List.mem_of_getElem? ho)
            generalize V[m]'_ = o at ho hob
            have ho2 : V[(m : Int).toNat]? = some o := by rw [← hmk]; exact ho
            have HO := dhid ho2
            obtain ⟨g, rfl, hg⟩ := HX0.out (by omega)
            have HD : Hid (∀ w', Below w.heap.size w w' → Calls Try.prog 44 #[.slice (some ⟨g, 0, none⟩) n c, .int .i64 (m : Int)] w' fun e w2 => e = .returned (.int .i64 o.d) ∧ Below w'.heap.size w' w2) := fun w' hb => sdepth_any g n c L HN.out V m o w' hA ho (hg.under hb)
            by_cases hd6 : o.d < 6
            · have HDO : Hid (∀ w, Calls Try.prog 46 #[.string o.t, .string s] w fun e w' => DoPost w (doD o.t s) e w') := fun w => sdos_any o.t s w (by have := hob.1; omega) (by omega)
              obtain ⟨g1, k1, hxe, hg1, hc1⟩ := owns1_at HM.out (by have := HVL.out; omega)
              injection hxe with e1 e2 e3
              subst e1
              have y1 := hc1 _ _ (vtC_at ho)
              rw [HVL.out] at e2
              have e4 := e2.symm
              subst e4
              cases hd : doD o.t s with
              | none =>
                have HR : Hid (avR L s (m : Int) = some (L ++ [⟨-1, s, []⟩])) := by
                  show avR L s _ = _
                  rw [avR_yes hA HC.out, avL_long h0 HO.out (by unfold shR; rw [hd]; rfl)]
                rw [hd] at HDO
                have HDO2 : Hid (∀ w, Calls Try.prog 46 #[.string o.t, .string s] w fun e w' => (∃ v, e = .returned (.tuple #[v, .bool false]) ∧ w'.ownsRow w.heap.size 89 3 v 0 []) ∧ Below w.heap.size w w') := HDO.out
                obtain ⟨ot, od⟩ := o
                simp only at hd6 HDO2 y1 HD
                have HY1 := dhid y1
                clear hA hG ho ho2 hob HO hd HDO hc1 y1 hg hmk HVF HM
                go_wp2_with fail
                refine (HIY.out _ _ _ _ hin.1 hin.2).mono ?_
                rintro e w1 ⟨rfl, hw1⟩
                subst w1
                clear hin HIN HIY
                go_wp2_with fail
                refine HCP.out.mono ?_
                rintro e w5 ⟨⟨v5, us, rfl, hgl⟩, hb5⟩
                have HGL := dhid hgl
                have HSZ := dhid hb5.size
                have HS3 := dhid HB3.out.size
                have HB5 := dhid (dblow HB3.out hb5 HB3.out.size)
                have y1 : w5.cell? ⟨g1, m, none⟩ = some (.string ot) := (hb5.cell (p := ⟨g1, m, none⟩) hg1).trans HY1.out
                have HY5 := dhid y1
                have HG5 : Hid (g1 < w5.heap.size) := Nat.lt_of_lt_of_le hg1 hb5.size
                clear hgl hb5 HCP y1 hg1
                go_wp2_with fail
                refine (HD.out _ HB5.out).mono ?_
                rintro e w6 ⟨rfl, hb6⟩
                have HW6 := dhid hb6
                have HB6 := dhid (dblow HB5.out hb6 HB5.out.size)
                have y1 : w6.cell? ⟨g1, m, none⟩ = some (.string ot) := (hb6.cell (p := ⟨g1, m, none⟩) HG5.out).trans HY5.out
                clear hb6 HD
                go_wp2_with fail
                refine (HDO2.out _).mono ?_
                rintro e w8 ⟨⟨pw, rfl, hpo⟩, hb8⟩
                have HW8 := dhid (dblow HW6.out hb8 HW6.out.size)
                have HB8 := dhid (dblow HB6.out hb8 HB6.out.size)
                obtain ⟨pa, pn, pc, rfl⟩ : ∃ xa xn xc, pw = .slice xa xn xc := own_sliceA hpo
                clear hb8 hpo HDO2 y1 HW6 HB6
                go_wp2_with (at_builtin; (refine wpList_append_lk rfl _ _ 25 rfl _ i0 _ Try.underlying25 hi0 hz0 hz1 hz2 rfl _ n us (L.flatMap lkDs) rfl HGL.out (by omega) HSZ.out HW8.out (-1) s [] _ _ _ ⟨[], .nil _ _ _ _, List.nodup_nil, fun b hb => by cases hb⟩ rfl ?_; intro v' us' w7 hgl7 hbl7; refine hold_goalF ?_))
                have HO7 := dhid ((gl_lkG hgl7 HN.out).base HS3.out)
                have HB7 := dhid (hbl7 _ _ HB8.out HS3.out)
                clear hgl7 hbl7
                unfold Hid
                go_wp2_with fail
                go_ret2
                exact SaPost.yes HR.out HO7.out HB7.out
              | some P =>
                rw [hd] at HDO
                obtain ⟨hpl, hpr, _⟩ := doD_good hd
                have HDT : Hid (∀ v w', PcArg w' v P.length (pcF P) → Calls Try.prog 47 #[v] w' fun e w2 => e = .returned (.string (dtV (pcF P) P.length)) ∧ Below w'.heap.size w' w2) := fun v w' h => sdt_any v P.length (pcF P) w' (pcLe_of hpr) h
                have htz := dtV_size (pcLe_of hpr)
                have HDO2 : Hid (∀ w, Calls Try.prog 46 #[.string o.t, .string s] w fun e w' => (∃ v, e = .returned (.tuple #[v, .bool true]) ∧ w'.ownsRow w.heap.size 89 3 v P.length (pcC P)) ∧ Below w.heap.size w w') := HDO.out
                by_cases hlt : (dtV (pcF P) P.length).size < s.size
                · have HR : Hid (avR L s (m : Int) = some (L ++ [⟨m, ⟨#[]⟩, P⟩])) := by
                    show avR L s _ = _
                    rw [avR_yes hA HC.out, avL_delta h0 HO.out hd6 (by unfold shR; rw [hd]; exact if_pos hlt)]
                  have hltI : ((dtV (pcF P) P.length).size : Int) < (s.size : Int) := by omega
                  generalize dtV (pcF P) P.length = X at HDT hltI htz
                  obtain ⟨ot, od⟩ := o
                  simp only at hd6 HDO2 y1 HD
                  have HY1 := dhid y1
                  clear hA hG ho ho2 hob HO hd HDO hc1 y1 hg hmk HVF HM hlt hpl hpr
                  go_wp2_with fail
                  refine (HIY.out _ _ _ _ hin.1 hin.2).mono ?_
                  rintro e w1 ⟨rfl, hw1⟩
                  subst w1
                  clear hin HIN HIY
                  go_wp2_with fail
                  refine HCP.out.mono ?_
                  rintro e w5 ⟨⟨v5, us, rfl, hgl⟩, hb5⟩
                  have HGL := dhid hgl
                  have HSZ := dhid hb5.size
                  have HS3 := dhid HB3.out.size
                  have HB5 := dhid (dblow HB3.out hb5 HB3.out.size)
                  have y1 : w5.cell? ⟨g1, m, none⟩ = some (.string ot) := (hb5.cell (p := ⟨g1, m, none⟩) hg1).trans HY1.out
                  have HY5 := dhid y1
                  have HG5 : Hid (g1 < w5.heap.size) := Nat.lt_of_lt_of_le hg1 hb5.size
                  clear hgl hb5 HCP y1 hg1
                  go_wp2_with fail
                  refine (HD.out _ HB5.out).mono ?_
                  rintro e w6 ⟨rfl, hb6⟩
                  have HW6 := dhid hb6
                  have HB6 := dhid (dblow HB5.out hb6 HB5.out.size)
                  have y1 : w6.cell? ⟨g1, m, none⟩ = some (.string ot) := (hb6.cell (p := ⟨g1, m, none⟩) HG5.out).trans HY5.out
                  clear hb6 HD
                  go_wp2_with fail
                  refine (HDO2.out _).mono ?_
                  rintro e w8 ⟨⟨pw, rfl, hpo⟩, hb8⟩
                  have HW8 := dhid (dblow HW6.out hb8 HW6.out.size)
                  have HB8 := dhid (dblow HB6.out hb8 HB6.out.size)
                  obtain ⟨pa, pn, pc, rfl⟩ : ∃ xa xn xc, pw = .slice xa xn xc := own_sliceA hpo
                  have HA8 := dhid (own3_arg hpo)
                  have HO8 := dhid ((pcs_own hpo).base HW6.out.size)
                  clear hb8 hpo HDO2 y1 HW6 HB6
                  go_wp2_with fail
                  refine (HDT.out _ _ HA8.out).mono ?_
                  rintro e w9 ⟨rfl, hb9⟩
                  have HW9 := dhid (dblow HW8.out hb9 HW8.out.size)
                  have HB9 := dhid (dblow HB8.out hb9 HB8.out.size)
                  have HO9 := dhid ((HO8.out.under hb9))
                  clear hb9 HO8 HA8 HDT HW8 HB8
                  go_wp2_with (at_builtin; (refine wpList_append_lk rfl _ _ 25 rfl _ i0 _ Try.underlying25 hi0 hz0 hz1 hz2 rfl _ n us (L.flatMap lkDs) rfl HGL.out (by omega) HSZ.out HW9.out (m : Int) ⟨#[]⟩ P _ _ _ HO9.out rfl ?_; intro v' us' w7 hgl7 hbl7; refine hold_goalF ?_))
                  have HO7 := dhid ((gl_lkG hgl7 HN.out).base HS3.out)
                  have HB7 := dhid (hbl7 _ _ HB9.out HS3.out)
                  clear hgl7 hbl7
                  unfold Hid
                  go_wp2_with fail
                  go_ret2
                  exact SaPost.yes HR.out HO7.out HB7.out
                · have HR : Hid (avR L s (m : Int) = some (L ++ [⟨-1, s, []⟩])) := by
                    show avR L s _ = _
                    rw [avR_yes hA HC.out, avL_long h0 HO.out (by unfold shR; rw [hd]; exact if_neg hlt)]
                  have hltI : ¬ ((dtV (pcF P) P.length).size : Int) < (s.size : Int) := by omega
                  generalize dtV (pcF P) P.length = X at HDT hltI htz
                  obtain ⟨ot, od⟩ := o
                  simp only at hd6 HDO2 y1 HD
                  have HY1 := dhid y1
                  clear hA hG ho ho2 hob HO hd HDO hc1 y1 hg hmk HVF HM hlt hpl hpr
                  go_wp2_with fail
                  refine (HIY.out _ _ _ _ hin.1 hin.2).mono ?_
                  rintro e w1 ⟨rfl, hw1⟩
                  subst w1
                  clear hin HIN HIY
                  go_wp2_with fail
                  refine HCP.out.mono ?_
                  rintro e w5 ⟨⟨v5, us, rfl, hgl⟩, hb5⟩
                  have HGL := dhid hgl
                  have HSZ := dhid hb5.size
                  have HS3 := dhid HB3.out.size
                  have HB5 := dhid (dblow HB3.out hb5 HB3.out.size)
                  have y1 : w5.cell? ⟨g1, m, none⟩ = some (.string ot) := (hb5.cell (p := ⟨g1, m, none⟩) hg1).trans HY1.out
                  have HY5 := dhid y1
                  have HG5 : Hid (g1 < w5.heap.size) := Nat.lt_of_lt_of_le hg1 hb5.size
                  clear hgl hb5 HCP y1 hg1
                  go_wp2_with fail
                  refine (HD.out _ HB5.out).mono ?_
                  rintro e w6 ⟨rfl, hb6⟩
                  have HW6 := dhid hb6
                  have HB6 := dhid (dblow HB5.out hb6 HB5.out.size)
                  have y1 : w6.cell? ⟨g1, m, none⟩ = some (.string ot) := (hb6.cell (p := ⟨g1, m, none⟩) HG5.out).trans HY5.out
                  clear hb6 HD
                  go_wp2_with fail
                  refine (HDO2.out _).mono ?_
                  rintro e w8 ⟨⟨pw, rfl, hpo⟩, hb8⟩
                  have HW8 := dhid (dblow HW6.out hb8 HW6.out.size)
                  have HB8 := dhid (dblow HB6.out hb8 HB6.out.size)
                  obtain ⟨pa, pn, pc, rfl⟩ : ∃ xa xn xc, pw = .slice xa xn xc := own_sliceA hpo
                  have HA8 := dhid (own3_arg hpo)
                  clear hb8 hpo HDO2 y1 HW6 HB6
                  go_wp2_with fail
                  refine (HDT.out _ _ HA8.out).mono ?_
                  rintro e w9 ⟨rfl, hb9⟩
                  have HW9 := dhid (dblow HW8.out hb9 HW8.out.size)
                  have HB9 := dhid (dblow HB8.out hb9 HB8.out.size)
                  clear hb9 HA8 HDT HW8 HB8
                  go_wp2_with (at_builtin; (refine wpList_append_lk rfl _ _ 25 rfl _ i0 _ Try.underlying25 hi0 hz0 hz1 hz2 rfl _ n us (L.flatMap lkDs) rfl HGL.out (by omega) HSZ.out HW9.out (-1) s [] _ _ _ ⟨[], .nil _ _ _ _, List.nodup_nil, fun b hb => by cases hb⟩ rfl ?_; intro v' us' w7 hgl7 hbl7; refine hold_goalF ?_))
                  have HO7 := dhid ((gl_lkG hgl7 HN.out).base HS3.out)
                  have HB7 := dhid (hbl7 _ _ HB9.out HS3.out)
                  clear hgl7 hbl7
                  unfold Hid
                  go_wp2_with fail
                  go_ret2
                  exact SaPost.yes HR.out HO7.out HB7.out
            · have HR : Hid (avR L s (m : Int) = some (L ++ [⟨-1, s, []⟩])) := by
                show avR L s _ = _
                rw [avR_yes hA HC.out, avL_deep h0 HO.out hd6]
              obtain ⟨ot, od⟩ := o
              simp only at hd6 HD
              clear hA hG ho ho2 hob HO hg hmk HVF HM
              go_wp2_with fail
              refine (HIY.out _ _ _ _ hin.1 hin.2).mono ?_
              rintro e w1 ⟨rfl, hw1⟩
              subst w1
              clear hin HIN HIY
              go_wp2_with fail
              refine HCP.out.mono ?_
              rintro e w5 ⟨⟨v5, us, rfl, hgl⟩, hb5⟩
              have HGL := dhid hgl
              have HSZ := dhid hb5.size
              have HS3 := dhid HB3.out.size
              have HB5 := dhid (dblow HB3.out hb5 HB3.out.size)
              clear hgl hb5 HCP
              go_wp2_with fail
              refine (HD.out _ HB5.out).mono ?_
              rintro e w6 ⟨rfl, hb6⟩
              have HW6 := dhid hb6
              have HB6 := dhid (dblow HB5.out hb6 HB5.out.size)
              clear hb6 HD
              go_wp2_with (at_builtin; (refine wpList_append_lk rfl _ _ 25 rfl _ i0 _ Try.underlying25 hi0 hz0 hz1 hz2 rfl _ n us (L.flatMap lkDs) rfl HGL.out (by omega) HSZ.out HW6.out (-1) s [] _ _ _ ⟨[], .nil _ _ _ _, List.nodup_nil, fun b hb => by cases hb⟩ rfl ?_; intro v' us' w7 hgl7 hbl7; refine hold_goalF ?_))
              have HO7 := dhid ((gl_lkG hgl7 HN.out).base HS3.out)
              have HB7 := dhid (hbl7 _ _ HB6.out HS3.out)
              clear hgl7 hbl7
              unfold Hid
              go_wp2_with fail
              go_ret2
              exact SaPost.yes HR.out HO7.out HB7.out
          · obtain rfl : k = -1 := by omega
            have HR : Hid (avR L s (-1) = some (L ++ [⟨-1, s, []⟩])) := by
              show avR L s (-1) = _
              rw [avR_yes hA HC.out, avL_whole (by omega)]
            clear hA hG HVF HM
            go_wp2_with fail
            refine (HIY.out _ _ _ _ hin.1 hin.2).mono ?_
            rintro e w1 ⟨rfl, hw1⟩
            subst w1
            clear hin HIN HIY
            go_wp2_with fail
            refine HCP.out.mono ?_
            rintro e w5 ⟨⟨v5, us, rfl, hgl⟩, hb5⟩
            have HGL := dhid hgl
            have HSZ := dhid hb5.size
            have HS3 := dhid HB3.out.size
            have HB5 := dhid (dblow HB3.out hb5 HB3.out.size)
            clear hgl hb5 HCP
            go_wp2_with (at_builtin; (refine wpList_append_lk rfl _ _ 25 rfl _ i0 _ Try.underlying25 hi0 hz0 hz1 hz2 rfl _ n us (L.flatMap lkDs) rfl HGL.out (by omega) HSZ.out (Below.refl _ _) (-1) s [] _ _ _ ⟨[], .nil _ _ _ _, List.nodup_nil, fun b hb => by cases hb⟩ rfl ?_; intro v' us' w7 hgl7 hbl7; refine hold_goalF ?_))
            have HO7 := dhid ((gl_lkG hgl7 HN.out).base HS3.out)
            have HB7 := dhid (hbl7 _ _ HB5.out HS3.out)
            clear hgl7 hbl7
            unfold Hid
            go_wp2_with fail
            go_ret2
            exact SaPost.yes HR.out HO7.out HB7.out
        · have HR := dhid (avR_no (L := L) (s := s) (k := k) fun c => hin ⟨c.2.2.1, by rw [HN.out]; exact c.2.2.2⟩)
          have HINN := dhid hin
          clear hA hG HVF HM hin HCP
          go_wp2_with fail
          refine (HIN.out _ _ _ _ HINN.out).mono ?_
          rintro e w1 ⟨rfl, hw1⟩
          subst w1
          go_wp2_with fail
          go_ret2
          exact SaPost.no HR.out HB3.out
      · have hs4I : (4000 : Int) < (s.size : Int) := by omega
        have HR := dhid (avR_no (L := L) (s := s) (k := k) fun c => hs4 c.2.1)
        clear hA hG HVF HM HCP hs4
        go_wp2_with fail
        go_ret2
        exact SaPost.no HR.out HB3.out
    · have hnb : n = 30 := by omega
      have HR := dhid (avR_no (L := L) (s := s) (k := k) fun c => hn29 (by rw [HN.out]; exact c.1))
      have hnI : (30 : Int) ≤ (n : Int) := by omega
      clear hA hG HVF HM HCP hn29 hnb
      go_wp2_with fail
      go_ret2
      exact SaPost.no HR.out HB3.out
theorem sadd_any (v : Value) (L : List LkI) (bs : List Nat) (s : ByteArray) (k : Int) (w : World) (hs : s.size ≤ 1048576) (hl : LkLe L) (h : Hd w (lksD L) v bs) :
    Calls Try.prog 22 #[v, .string s, .int .i64 k] w fun e w' => LkPost w (avR L s k) e w' := (saddG_any v L bs s k w hs hl h).mono fun e w' hp => hp.lk
end Go.Proofs.Ytpeddaljgmkomaa
