/-
  Between two trees just those paths have changed at which they do not have the same; either way round.
-/
import Derived.Test.YtbmcjoaigajjkaaDoorRows
import Derived.Test.YtbmcjoaigajjkaaDoorTie
import Derived.Test.YtbmcjoaigajjkaaDoorCards
import Derived.Test.YtbmcjoaigajjkaaDoorCardKitP
import Derived.SevenTiedAt
import Derived.Stop.Joined
import Derived.Lay
import Derived.Test.YtbmcjoaigajjkaaDoorChgL
import Derived.Test.YtbmcjoaigajjkaaDoorChgS
import Derived.Test.YtbmcjoaigajjkaaDoorDrwTg
import Derived.Test.YtbmcjoaigajjkaaDoorSameNB
import Derived.Test.YtbmcjoaigajjkaaDoorCutAll
import Derived.Test.YtbmcjoaigajjkaaDoorTrG
import Derived.Test.YtbmcjoaigajjkaaDoorBig
import Derived.Laws.Rows
import Derived.Laws.Cover1
import Derived.BigQuiet
import Derived.WalkKit
import Derived.ProofKit
import Derived.OpenShut
import Derived.ShutString
import Derived.ChangeOld
import Derived.Below
namespace Go.Proofs.YtbmcjoaigajjkaaDoor.fnChanged
open Go.ChangeShapes Go.WideShapes Go.ChangeAt Go.RowKit
open Go.ChangeMaps (open_string shut_string)
set_option linter.unusedVariables false

theorem own : ownKnob Tryd.prog.godebug = none := by kernel_rfl
theorem laidOut : laidOutB Tryd.prog = true := by kernel_rfl

/-- what the walk is told of a slice of integers that came in -/
def IsRow (k : IntKind) (w : World) (a : Option Addr) (len cap : Nat) (zs : List Int) : Prop :=
  (a = none ∧ len = 0 ∧ cap = 0 ∧ zs = []) ∨
  ∃ x, a = some x ∧ len ≤ cap ∧ cap ≤ maxLen ∧ zs.length = cap ∧ (∀ i, i < zs.length → w.cell? (x.add i) = some (.int k (zs.getD i 0))) ∧ ∀ n ∈ zs, (Lit.int k n).wf = true

set_option linter.unusedSimpArgs false
set_option linter.unusedVariables false
theorem nd_eql (p q : NdI) (w : World) : Sem.run Tryd.prog (binOp .eql 32 (.agg #[.string p.p, .bool p.r, .int .i64 p.m, .string p.d]) (.agg #[.string q.p, .bool q.r, .int .i64 q.m, .string q.d])) w = .ok (.bool (!ndNe p q)) w := by
  have hS : Tryd.prog.underlying 32 = some (.struct (Tryd.prog.fieldsOf 32)) := by kernel_rfl
  have hp : Tryd.prog.stoodInHeld 32 = false := by kernel_rfl
  rw [run_eql_struct, show (10000 : Nat) = 9999 + 1 from rfl, run_equalIn_agg w 9999 32 _ _ hS hp]
  simp only [Program.fieldsOf, Tryd.underlying32]
  go_simp
  unfold ndNe
  by_cases h1 : p.p.toList = q.p.toList <;> by_cases h2 : p.r = q.r <;> by_cases h3 : p.m = q.m <;> by_cases h4 : p.d.toList = q.d.toList <;> simp [h1, h2, h3, h4]
theorem st_len0 {w : World} {B : Nat} {v : Value} {T : List ByteArray} (h : w.ownsRow B 9 1 v T.length (stC T)) : ∃ a c, v = .slice a T.length c ∧ (0 < T.length → ∃ (g : Nat) (cur : Array Value), a = some ⟨g, 0, none⟩ ∧ w.heap[g]? = some (.cells cur 9 (0, 0)) ∧ ∀ (j : Nat) (u : Value), (stC T)[j]? = some u → cur[j]? = some u) := by
  obtain ⟨_, ⟨h0, hn⟩ | ⟨g, cap, cur, h1, h2, h3, _, _, _, h7⟩⟩ := h
  · exact ⟨none, 0, by rw [h0, hn], fun h => absurd h (by omega)⟩
  · refine ⟨_, cap, h1, fun _ => ⟨g, cur, rfl, h3, fun j u hj => ?_⟩⟩
    rw [← h7, List.getElem?_take] at hj
    split at hj
    · simpa using hj
    · cases hj
theorem sameT_own (T : List ByteArray) (va vb : Value) (B1 B2 : Nat) (w : World) (hT : T.length ≤ 80) (ha : w.ownsRow B1 9 1 va T.length (stC T)) (hb : w.ownsRow B2 9 1 vb T.length (stC T)) :
    Calls Tryd.prog 8 #[va, vb] w fun e w' => e = .returned (.bool true) ∧ Below w.heap.size w w' := by
  obtain ⟨a, c, rfl, h1⟩ := st_len0 ha
  obtain ⟨b, d, rfl, h2⟩ := st_len0 hb
  by_cases h0 : 0 < T.length
  · obtain ⟨g, cur, rfl, k1, k2⟩ := h1 h0
    obtain ⟨h, cur2, rfl, m1, m2⟩ := h2 h0
    exact sameT_any g h 0 c d T.length T w (by omega) (by omega) rfl (fun j v hj => (cell_of_row _ _ _ _ _ _ k1).trans (k2 j v hj)) (fun j v hj => by rw [Nat.zero_add]; exact (cell_of_row _ _ _ _ _ _ m1).trans (m2 j v hj))
  · have e : T.length = 0 := by omega
    rw [e]
    exact sameT_zero a b c d w
/-- what the law holds between two of its calls -/
structure Cg (w wr : World) (v u l : Value) (L M : List NdI) (T : List ByteArray) : Prop where
  bel : Below w.heap.size w wr
  o1 : wr.ownsRow w.heap.size 32 4 v L.length (ndC L)
  o2 : wr.ownsRow w.heap.size 32 4 u M.length (ndC M)
  ol : wr.ownsRow w.heap.size 9 1 l T.length (stC T)
theorem Cg.call {w wr w' : World} {v u l : Value} {L M : List NdI} {T : List ByteArray} (h : Cg w wr v u l L M T) (hb : Below wr.heap.size wr w') : Cg w w' v u l L M T :=
  ⟨blNd h.bel hb h.bel.size, own_callK h.o1 hb, own_callK h.o2 hb, own_callK h.ol hb⟩
theorem own1_keep {w w' : World} {B n : Nat} {e : TypeId} {v : Value} {xs : List Value} (h : w.ownsRow B e 1 v n xs) (hb : ∀ k, v.ownBlock = some k → w'.heap[k]? = w.heap[k]?) : w'.ownsRow B e 1 v n xs := by
  obtain ⟨h0, h1 | ⟨g, cap, cur, h1, h2, h3, h4, h5, h6, h7⟩⟩ := h
  · exact ⟨h0, Or.inl h1⟩
  · exact ⟨h0, Or.inr ⟨g, cap, cur, h1, h2, (hb g (by rw [h1]; rfl)).trans h3, h4, h5, h6, h7⟩⟩
theorem two_le {L M : List NdI} (h1 : L.length ≤ 10) (h2 : M.length ≤ 10) : (L ++ M).length ≤ 20 := by simp; omega

set_option maxRecDepth 100000 in
set_option maxHeartbeats 4000000 in
theorem walk (a0 : Option Addr) (len0 cap0 : Nat) (z0 : List Int) (w : World) (w0 : IsRow .u8 w a0 len0 cap0 z0) (hm : MxL w) :
    Calls Tryd.prog 3 #[.slice a0 len0 cap0] w fun e w' => e = .returned (.bool true) ∧ Below w.heap.size w w' := by
  by_cases hbig : 1048576 < len0
  · go_enter Tryd.func3, Tryd.ntmps3
    go_wp2_with fail
    refine (big_yes a0 len0 cap0 _ hbig).mono ?_
    rintro e w1 ⟨rfl, rfl⟩
    go_wp2_with fail
    go_ret
    exact ⟨rfl, Below.refl _ _⟩
  · have hS := src_of w0 (by omega)
    have HMX : Hid (∀ w', Below w.heap.size w w' → MxL w') := fun w' h => hm.below h hm.lt
    clear w0 hm
    go_enter Tryd.func3, Tryd.ntmps3
    go_wp2_with fail
    refine (big_no a0 len0 cap0 _ hbig).mono ?_
    rintro e w1 ⟨rfl, hw1⟩
    subst w1
    go_wp2_with fail
    refine (drawChanged hS (Below.refl _ _)).mono ?_
    rintro e w2 ⟨v, u, L, M, rfl, hd⟩
    clear hbig hS
    have hF := ndF_leD L hd.s1.1 hd.s1.2
    have hG := ndF_leD M hd.s2.1 hd.s2.2
    have HL10 := hidG hd.s1.1
    have HM10 := hidG hd.s2.1
    have HSZ : Hid (∀ p ∈ L ++ M, p.p.size ≤ 100 ∧ p.d.size ≤ 600) := fun p hp => (List.mem_append.1 hp).elim (hd.s1.2 p) (hd.s2.2 p)
    have HC1 : Hid (∀ w', Below w.heap.size w w' → NdArg w' v L.length (ndF L) → NdArg w' u M.length (ndF M) → Calls Tryd.prog 7 #[v, u] w' fun e w'' => (∃ l, e = .returned l ∧ w''.ownsRow w'.heap.size 9 1 l (chL (ndF L) L.length (ndF M) M.length).length (stC (chL (ndF L) L.length (ndF M) M.length))) ∧ Below w'.heap.size w' w'') := fun w' hb h1 h2 => chg_any v u L.length M.length (ndF L) (ndF M) w' (HMX.out _ hb) hF hG h1 h2
    have HC2 : Hid (∀ w', Below w.heap.size w w' → NdArg w' v L.length (ndF L) → NdArg w' u M.length (ndF M) → Calls Tryd.prog 7 #[u, v] w' fun e w'' => (∃ l, e = .returned l ∧ w''.ownsRow w'.heap.size 9 1 l (chL (ndF L) L.length (ndF M) M.length).length (stC (chL (ndF L) L.length (ndF M) M.length))) ∧ Below w'.heap.size w' w'') := fun w' hb h1 h2 => by
      have := chg_any u v M.length L.length (ndF M) (ndF L) w' (HMX.out _ hb) hG hF h2 h1
      rw [chL_sym (ndF L) (ndF M)] at this
      exact this
    have HCS : Hid (∀ w', NdArg w' v L.length (ndF L) → NdArg w' u M.length (ndF M) → Calls Tryd.prog 9 #[v, u] w' fun e w'' => (∃ l, e = .returned l ∧ w''.ownsRow w'.heap.size 9 1 l (chL (ndF L) L.length (ndF M) M.length).length (stC (chL (ndF L) L.length (ndF M) M.length))) ∧ Below w'.heap.size w' w'') := fun w' h1 h2 => schg_any v u L.length M.length (ndF L) (ndF M) w' hF hG h1 h2
    have HTA : Hid (∀ w', NdArg w' v L.length (ndF L) → Calls Tryd.prog 10 #[v] w' fun e w'' => e = .returned (.bool (ndB (ndF L) L.length)) ∧ Below w'.heap.size w' w'') := fun w' h => streeOk_any _ _ _ w' hF h
    have HTB : Hid (∀ w', NdArg w' u M.length (ndF M) → Calls Tryd.prog 10 #[u] w' fun e w'' => e = .returned (.bool (ndB (ndF M) M.length)) ∧ Below w'.heap.size w' w'') := fun w' h => streeOk_any _ _ _ w' hG h
    have HFA : Hid (∀ (s : ByteArray) w', s.size ≤ 1048576 → Below w.heap.size w w' → NdArg w' v L.length (ndF L) → Calls Tryd.prog 11 #[v, .string s] w' fun e w'' => e = .returned (fdT (ndF L) (fdI (ndF L) L.length s)) ∧ Below w'.heap.size w' w'') := fun s w' h1 hb h => findF_any v L.length (ndF L) s w' hF h1 (HMX.out _ hb) h
    have HFB : Hid (∀ (s : ByteArray) w', s.size ≤ 1048576 → Below w.heap.size w w' → NdArg w' u M.length (ndF M) → Calls Tryd.prog 11 #[u, .string s] w' fun e w'' => e = .returned (fdT (ndF M) (fdI (ndF M) M.length s)) ∧ Below w'.heap.size w' w'') := fun s w' h1 hb h => findF_any u M.length (ndF M) s w' hG h1 (HMX.out _ hb) h
    have HSN : Hid (∀ w', NdArg w' v L.length (ndF L) → NdArg w' u M.length (ndF M) → Calls Tryd.prog 12 #[v, u] w' fun e w'' => e = .returned (.bool (eqNB L M)) ∧ Below w'.heap.size w' w'') := fun w' h1 h2 => sameN_two v u L M w' (by have := HL10.out; omega) (by have := HM10.out; omega) h1 h2
    have hTl := chL_len (ndF L) (ndF M) L.length M.length
    obtain ⟨T, hT⟩ : ∃ T, T = chL (ndF L) L.length (ndF M) M.length := ⟨_, rfl⟩
    rw [← hT] at HC1 HC2 HCS hTl
    have HST : Hid (∀ va vb B1 B2 w', w'.ownsRow B1 9 1 va T.length (stC T) → w'.ownsRow B2 9 1 vb T.length (stC T) → Calls Tryd.prog 8 #[va, vb] w' fun e w'' => e = .returned (.bool true) ∧ Below w'.heap.size w' w'') := fun va vb B1 B2 w' h1 h2 => sameT_own T va vb B1 B2 w' hTl h1 h2
    have HTT : Hid (T = chL (ndF L) L.length (ndF M) M.length) := hT
    have HD := hidG hd
    clear hd hF hG hT
    go_wp2_with fail
    refine (HC1.out _ HD.out.bel (own4_arg HD.out.o1) (own4_arg HD.out.o2)).mono ?_
    rintro e w3 ⟨⟨l, rfl, hol⟩, hb3⟩
    have H3 : Hid (Cg w w3 v u l L M T) := ⟨blNd HD.out.bel hb3 HD.out.bel.size, own_callK HD.out.o1 hb3, own_callK HD.out.o2 hb3, own_baseK hol HD.out.bel.size⟩
    clear hol hb3 HD
    go_wp2_with fail
    refine (HCS.out _ (own4_arg H3.out.o1) (own4_arg H3.out.o2)).mono ?_
    rintro e w4 ⟨⟨l2, rfl, hol⟩, hb4⟩
    have H4 := hidG (H3.out.call hb4)
    have HO4 := hidG hol
    clear hol hb4 H3
    go_wp2_with fail
    refine (HST.out l l2 _ _ _ H4.out.ol HO4.out).mono ?_
    rintro e w5 ⟨rfl, hb5⟩
    have H5 := hidG (H4.out.call hb5)
    clear hb5 H4 HO4
    go_wp2_with fail
    refine (HC2.out _ H5.out.bel (own4_arg H5.out.o1) (own4_arg H5.out.o2)).mono ?_
    rintro e w6 ⟨⟨l3, rfl, hol⟩, hb6⟩
    have H6 := hidG (H5.out.call hb6)
    have HO6 := hidG hol
    clear hol hb6 H5
    go_wp2_with fail
    refine (HST.out l l3 _ _ _ H6.out.ol HO6.out).mono ?_
    rintro e w7 ⟨rfl, hb7⟩
    have H7 := hidG (H6.out.call hb7)
    clear hb7 H6 HO6
    go_wp2_with fail
    refine (HTA.out _ (own4_arg H7.out.o1)).mono ?_
    rintro e w8 ⟨rfl, hb8⟩
    have H8 := hidG (H7.out.call hb8)
    clear hb8 H7
    have HE32 : Hid (∀ w', Cg w w' v u l L M T → True) := fun _ _ => trivial
    by_cases hnd : ndR (ndF L) L.length ∧ ndR (ndF M) M.length
    rotate_left
    · by_cases hL : ndR (ndF L) L.length
      · have hM : ¬ ndR (ndF M) M.length := fun h => hnd ⟨hL, h⟩
        rw [ndB_yes hL]
        rw [ndB_no hM] at HTB
        clear hnd hL hM
        go_wp2_with fail
        refine (HTB.out _ (own4_arg H8.out.o2)).mono ?_
        rintro e w9 ⟨rfl, hb9⟩
        have H9 := hidG (H8.out.call hb9)
        clear hb9 H8
        go_wp2_with fail
        refine (HCS.out _ (own4_arg H9.out.o1) (own4_arg H9.out.o2)).mono ?_
        rintro e w4 ⟨⟨l2, rfl, hol⟩, hb4⟩
        have H4 := hidG (H9.out.call hb4)
        have HO4 := hidG hol
        clear hol hb4
        go_wp2_with fail
        refine (HST.out l l2 _ _ _ H4.out.ol HO4.out).mono ?_
        rintro e w5 ⟨rfl, hb5⟩
        have H5 := hidG (H4.out.call hb5)
        clear hb5 H4 HO4
        go_wp2_with fail
        refine (HC2.out _ H5.out.bel (own4_arg H5.out.o1) (own4_arg H5.out.o2)).mono ?_
        rintro e w6 ⟨⟨l3, rfl, hol⟩, hb6⟩
        have H6 := hidG (H5.out.call hb6)
        have HO6 := hidG hol
        clear hol hb6 H5
        go_wp2_with fail
        refine (HST.out l l3 _ _ _ H6.out.ol HO6.out).mono ?_
        rintro e w7 ⟨rfl, hb7⟩
        have H7 := hidG (H6.out.call hb7)
        clear hb7 H6 HO6
        go_wp2_with fail
        go_ret
        exact ⟨rfl, H7.out.bel⟩
      · rw [ndB_no hL]
        clear hnd hL
        go_wp2_with fail
        refine (HCS.out _ (own4_arg H8.out.o1) (own4_arg H8.out.o2)).mono ?_
        rintro e w4 ⟨⟨l2, rfl, hol⟩, hb4⟩
        have H4 := hidG (H8.out.call hb4)
        have HO4 := hidG hol
        clear hol hb4
        go_wp2_with fail
        refine (HST.out l l2 _ _ _ H4.out.ol HO4.out).mono ?_
        rintro e w5 ⟨rfl, hb5⟩
        have H5 := hidG (H4.out.call hb5)
        clear hb5 H4 HO4
        go_wp2_with fail
        refine (HC2.out _ H5.out.bel (own4_arg H5.out.o1) (own4_arg H5.out.o2)).mono ?_
        rintro e w6 ⟨⟨l3, rfl, hol⟩, hb6⟩
        have H6 := hidG (H5.out.call hb6)
        have HO6 := hidG hol
        clear hol hb6 H5
        go_wp2_with fail
        refine (HST.out l l3 _ _ _ H6.out.ol HO6.out).mono ?_
        rintro e w7 ⟨rfl, hb7⟩
        have H7 := hidG (H6.out.call hb7)
        clear hb7 H6 HO6
        go_wp2_with fail
        go_ret
        exact ⟨rfl, H7.out.bel⟩
    rw [ndB_yes hnd.1]
    rw [ndB_yes hnd.2] at HTB
    go_wp2_with fail
    refine (HTB.out _ (own4_arg H8.out.o2)).mono ?_
    rintro e w9 ⟨rfl, hb9⟩
    have H9 := hidG (H8.out.call hb9)
    clear hb9 H8
    have HTOLD : Hid (∀ i, i < (L ++ M).length → _) := fun i hi => ch_told hnd.1 hnd.2 hi
    rw [← HTT.out] at HTOLD
    have HNOD : Hid (T.Nodup) := by rw [HTT.out]; exact List.Pairwise.imp (S := (· ≠ ·)) (fun {a b} h e => pL_ne h e) (chL_P hnd).rise
    have HCNT : Hid (T.length ≤ cntT (L ++ M) T (L ++ M).length) := cntT_all HNOD.out (by rw [HTT.out]; exact ch_from hnd.1 hnd.2)
    have HSAME : Hid ((T.length == 0) = eqNB L M) := by
      have h := chL_same hnd.1 hnd.2
      rw [← HTT.out] at h
      show _ = _
      by_cases e : L = M
      · rw [eqNB_yes e, h.2 e]; rfl
      · rw [eqNB_no e]
        cases hT : T with
        | nil => exact absurd (h.1 hT) e
        | cons a t => rfl
    have HA20 : Hid ((L ++ M).length ≤ 20) := two_le HL10.out HM10.out
    obtain ⟨i0, hi, hz0, hz1, hz2⟩ := info_parts Tryd.infNd
    have hown0 : (w9.alloc (.cells #[] 32)).ownsRow w9.heap.size 32 4 (.slice (some ⟨w9.heap.size, 0, none⟩) 0 0) ([] : List NdI).length (ndC []) := World.ownsRow_made (e := 32) (size := 4) w9 #[] 0 (Nat.le_refl _) (by unfold maxLen; omega) rfl
    have HOW := hidG hown0
    have HB9 := hidG (H9.out.call ((Below.refl _ _).alloc (Nat.le_refl _) (.cells #[] 32)))
    have h10 := HL10.out
    have h11 := HM10.out
    obtain ⟨al, cl, hvl⟩ := own4_slice HB9.out.o1
    obtain ⟨am, cm, hum⟩ := own4_slice HB9.out.o2
    subst hvl hum
    clear hown0 hnd
    go_wp2_with (at_builtin; (refine append_nds rfl _ _ 24 rfl w9.heap.size i0 _ Tryd.underlying24 hi hz0 hz1 hz2 rfl _ _ [] L rfl HOW.out rfl HB9.out.o1 ?k3 ?k5 ?_))
    case k3 => simp; omega
    case k5 => rw [World.size_alloc]; omega
    intro va wa howna hgrowa
    have howna : wa.ownsRow w9.heap.size 32 4 va L.length (ndC L) := howna
    have hbA : Below w9.heap.size w9 wa := ((Below.refl _ _).alloc (Nat.le_refl _) (.cells #[] 32)).grown hgrowa (by rw [World.size_alloc]; omega) (fun k hk => by have e : w9.heap.size = k := Option.some.inj hk; omega)
    have HWA := hidG (H9.out.call hbA)
    have HOA := hidG howna
    have HSA := hidG hbA.size
    clear howna hgrowa hbA HB9 HOW
    obtain ⟨aa, ca, hva⟩ := own4_slice HOA.out
    subst hva
    go_wp2_with (at_builtin; (refine append_nds rfl _ _ 24 rfl w9.heap.size i0 _ Tryd.underlying24 hi hz0 hz1 hz2 rfl _ _ L M rfl HOA.out rfl HWA.out.o2 ?k3 ?k5 ?_))
    case k3 => omega
    case k5 => exact HSA.out
    intro vb wb hownb hgrowb
    have hbB : Below w.heap.size w wb := HWA.out.bel.grown hgrowb HWA.out.bel.size (fun k hk => Nat.le_trans H9.out.bel.size (HOA.out.lt k hk).1)
    have hkp : ∀ k, k < w9.heap.size → wb.heap[k]? = wa.heap[k]? := fun k hk => hgrowb.block k (by have := HSA.out; omega) (fun c => by have := (HOA.out.lt k c.symm).1; omega)
    have HB : Hid (Cg w wb (.slice al L.length cl) (.slice am M.length cm) l L M T) := ⟨hbB, own4_keep HWA.out.o1 (fun k hk => hkp k (H9.out.o1.lt k hk).2), own4_keep HWA.out.o2 (fun k hk => hkp k (H9.out.o2.lt k hk).2), own1_keep HWA.out.ol (fun k hk => hkp k (H9.out.ol.lt k hk).2)⟩
    obtain ⟨A, hA⟩ : ∃ A, A = L ++ M := ⟨_, rfl⟩
    have hAl : L.length + M.length = A.length := by rw [hA, List.length_append]
    have HOB : Hid (wb.ownsRow w9.heap.size 32 4 vb A.length (ndC A)) := by
      have h := hownb
      rw [hAl, ← hA] at h
      exact h
    obtain ⟨ab, cb, hvb⟩ := own4_slice HOB.out
    subst hvb
    rw [← hA] at HTOLD HCNT HA20
    try rw [hAl]
    have HAA : Hid (∀ i, i < A.length → (ndF A i).p.size ≤ 100) := fun i hi => by
      subst hA
      rw [ndF_gt hi]
      exact (HSZ.out _ (List.getElem_mem hi)).1
    have HAR : Hid (∀ i wd, i < A.length → Below wb.heap.size wb wd → ∃ g, ab = some ⟨g, 0, none⟩ ∧ wd.cell? ⟨g, 4 * i, none⟩ = some (.string (ndF A i).p)) := fun i wd hi hb => by
      obtain ⟨a2, c2, e2, hr⟩ := own4_arg (own_callK HOB.out hb)
      cases e2
      obtain ⟨g, e3, hr2⟩ := hr (by omega)
      exact ⟨g, e3, hr2.c0 i hi⟩
    obtain ⟨la, lc, hll, hlr0⟩ := st_len0 HB.out.ol
    have HLR : Hid (∀ k wd, k < T.length → Below wb.heap.size wb wd → ∃ g, la = some ⟨g, 0, none⟩ ∧ wd.cell? ⟨g, k, none⟩ = some (.string (T.getD k ⟨#[]⟩))) := fun k wd hk hb => by
      obtain ⟨g, cur, e1, e2, e3⟩ := hlr0 (by omega)
      refine ⟨g, e1, ?_⟩
      have h2 := (hb.block g (Array.getElem?_eq_some_iff.1 e2).1).trans e2
      rw [cell_of_row _ _ _ _ _ _ h2]
      refine e3 _ _ ?_
      unfold stC
      rw [List.getElem?_map, List.getElem?_eq_getElem hk, List.getD_eq_getElem?_getD, List.getElem?_eq_getElem hk]
      rfl
    have HST0 : Hid (Below wb.heap.size wb wb) := Below.refl _ _
    have HC0 : Hid (cntT A T 0 = 0) := cntT_zero A T
    subst hll
    have hT80 : T.length ≤ 80 := hTl
    have hA20 := HA20.out
    clear hownb hgrowb hbB hkp H9 HWA HOA HSA hA hAl hlr0 HST HC1 HC2 HCS HTA HTB hTl
    go_wp2_with fail
    go_loopw [6, 8] (fun x y wr => ∃ (i c : Nat), i ≤ A.length ∧ c ≤ i ∧ x = .int .i64 (c : Int) ∧ y = .int .i64 (i : Int) ∧ Hid (c = cntT A T i) ∧ Hid (Below wb.heap.size wb wr)) (fun _ y _ => A.length - (trI y).toNat)
    case atStart => exact ⟨0, 0, by omega, by omega, rfl, rfl, HC0.out.symm, HST0⟩
    case round =>
      clear HST0 HC0
      rename World => W0
      obtain ⟨i, c, hi2, hci, rfl, rfl, HC, HW⟩ := hrel
      by_cases hlt : i < A.length
      · have hltI : (i : Int) < (A.length : Int) := by omega
        obtain ⟨g, rfl, x0⟩ := HAR.out i _ hlt HW.out
        obtain ⟨q, hq⟩ : ∃ q, q = 4 * i := ⟨_, rfl⟩
        rw [← hq] at x0
        have hiq : i * 4 = q := by omega
        obtain ⟨s, hs⟩ : ∃ s, s = (ndF A i).p := ⟨_, rfl⟩
        rw [← hs] at x0
        have HXR : Hid (∀ wd, Below wb.heap.size wb wd → wd.cell? ⟨g, q, none⟩ = some (.string s)) := fun wd hb => by
          obtain ⟨g2, e2, h2⟩ := HAR.out i wd hlt hb
          cases e2
          rw [hq, hs]; exact h2
        have HSS : Hid (s.size ≤ 100) := by show _ ≤ _; rw [hs]; exact HAA.out i hlt
        have HCY : Hid (inL T s = true → cntT A T (i + 1) = c + 1) := fun h => by rw [HC.out]; exact cntT_yes hlt (by rw [← hs]; exact h)
        have HCN : Hid (inL T s = false → cntT A T (i + 1) = c) := fun h => by rw [HC.out]; exact cntT_no hlt (by rw [← hs]; exact h)
        have htold := HTOLD.out i hlt
        rw [← hs] at htold
        have HIN := hidG hlt
        have HBW : Hid (Below w.heap.size w W0) := blNd HB.out.bel HW.out HB.out.bel.size
        have HBC := hidG (HB.out.call HW.out)
        clear hq hs
        obtain ⟨P, Q, ia, ib, t, hfa, hfb, htl, hrt⟩ : ∃ (P Q : NdI) (ia ib t : Bool), fdT (ndF L) (fdI (ndF L) L.length s) = .tuple #[ndVal P, .bool ia] ∧ fdT (ndF M) (fdI (ndF M) M.length s) = .tuple #[ndVal Q, .bool ib] ∧ inL T s = t ∧ ((ia = true ∧ ib = true ∧ ndNe P Q = t) ∨ (ia = true ∧ ib = false ∧ t = true) ∨ (ia = false ∧ t = true)) := by
          rcases htold with ⟨a, b, _, _, h1, h2, ⟨h3, h4⟩ | ⟨h3, h4⟩⟩ | ⟨a, _, h1, h2, h3⟩ | ⟨b, _, h1, h2, h3⟩
          · exact ⟨ndF L a, ndF M b, true, true, false, by rw [h1]; rfl, by rw [h2]; rfl, h4, Or.inl ⟨rfl, rfl, ndNe_no h3⟩⟩
          · exact ⟨ndF L a, ndF M b, true, true, true, by rw [h1]; rfl, by rw [h2]; rfl, h4, Or.inl ⟨rfl, rfl, ndNe_yes h3⟩⟩
          · exact ⟨ndF L a, nd0, true, false, true, by rw [h1]; rfl, by rw [h2]; rfl, h3, Or.inr (Or.inl ⟨rfl, rfl, rfl⟩)⟩
          · exact ⟨nd0, ndF M b, false, true, true, by rw [h1]; rfl, by rw [h2]; rfl, h3, Or.inr (Or.inr ⟨rfl, rfl⟩)⟩
        clear htold
        have hfA := HFA.out s W0 (by have := HSS.out; omega) HBW.out (own4_arg HBC.out.o1)
        rw [hfa] at hfA
        have HFA1 := hidG hfA
        have HFB1 : Hid (∀ w', Below w.heap.size w w' → Below wb.heap.size wb w' → Calls Tryd.prog 11 #[.slice am M.length cm, .string s] w' fun e w'' => e = .returned (.tuple #[ndVal Q, .bool ib]) ∧ Below w'.heap.size w' w'') := fun w' h1 h2 => by
          have := HFB.out s w' (by have := HSS.out; omega) h1 (own4_arg (HB.out.call h2).o2)
          rw [hfb] at this
          exact this
        have hnq := fun w => nd_eql P Q w
        obtain ⟨pa, pr, pm, pd⟩ := P
        obtain ⟨qa, qr, qm, qd⟩ := Q
        unfold ndVal at HFA1 HFB1
        simp only at HFA1 HFB1 hnq
        have HRT : Hid ((ia = true ∧ ib = true ∧ ndNe ⟨pa, pr, pm, pd⟩ ⟨qa, qr, qm, qd⟩ = t) ∨ (ia = true ∧ ib = false ∧ t = true) ∨ (ia = false ∧ t = true)) := hrt
        have HTL : Hid (inL T s = t) := htl
        have HNQ := hidG hnq
        clear hfA hfa hfb hrt htl hnq hlt
        go_wp2_with fail
        refine HFA1.out.mono ?_
        rintro e w1 ⟨rfl, hb1⟩
        have HW1 : Hid (Below wb.heap.size wb (w1.alloc (.cells #[.string pa, .bool pr, .int .i64 pm, .string pd] 32))) := (blNd HW.out hb1 HW.out.size).alloc (blNd HW.out hb1 HW.out.size).size _
        have HN1 : Hid ((w1.alloc (.cells #[.string pa, .bool pr, .int .i64 pm, .string pd] 32)).heap[w1.heap.size]? = some (.cells #[.string pa, .bool pr, .int .i64 pm, .string pd] 32 (0, 0))) := heap_alloc_new w1 _
        have x0 := HXR.out _ HW1.out
        clear hb1 HFA1 HBW HBC HW
        go_wp2_with fail
        generalize w1.alloc (.cells #[.string pa, .bool pr, .int .i64 pm, .string pd] 32) = w2 at HW1 HN1 x0 ⊢
        generalize w1.heap.size = na at HN1 ⊢
        refine (HFB1.out _ (blNd HB.out.bel HW1.out HB.out.bel.size) HW1.out).mono ?_
        rintro e w3 ⟨rfl, hb3⟩
        have HN3 : Hid ((w3.alloc (.cells #[.string qa, .bool qr, .int .i64 qm, .string qd] 32)).heap[na]? = some (.cells #[.string pa, .bool pr, .int .i64 pm, .string pd] 32 (0, 0))) := by
          have h1 := (Array.getElem?_eq_some_iff.1 HN1.out).1
          exact (Below.heap_alloc _ _ _ (Nat.lt_of_lt_of_le h1 hb3.size)).trans ((hb3.block na h1).trans HN1.out)
        have HM3 : Hid ((w3.alloc (.cells #[.string qa, .bool qr, .int .i64 qm, .string qd] 32)).heap[w3.heap.size]? = some (.cells #[.string qa, .bool qr, .int .i64 qm, .string qd] 32 (0, 0))) := heap_alloc_new w3 _
        have HW3 : Hid (Below wb.heap.size wb (w3.alloc (.cells #[.string qa, .bool qr, .int .i64 qm, .string qd] 32))) := (blNd HW1.out hb3 HW1.out.size).alloc (blNd HW1.out hb3 HW1.out.size).size _
        clear hb3 x0 HN1 HW1 HFB1
        go_wp2_with fail
        generalize w3.alloc (.cells #[.string qa, .bool qr, .int .i64 qm, .string qd] 32) = w4 at HN3 HM3 HW3 ⊢
        generalize w3.heap.size = nb at HM3 ⊢
        have HI0 : Hid (inL (T.take 0) s = false) := inL_zero T s
        have HS4 : Hid (Below w4.heap.size w4 w4) := Below.refl _ _
        go_loopw [13, 14] (fun x y wr => ∃ (k : Nat) (tb : Bool), k ≤ T.length ∧ x = .bool tb ∧ y = .int .i64 (k : Int) ∧ Hid (inL (T.take k) s = tb) ∧ Hid (Below w4.heap.size w4 wr)) (fun _ y _ => T.length - (trI y).toNat)
        case atStart => exact ⟨0, false, by omega, rfl, rfl, HI0, HS4⟩
        case round =>
          clear HS4 HI0
          rename World => W5
          obtain ⟨k, tb, hk, rfl, rfl, HI, HS⟩ := hrel
          by_cases hkt : k < T.length
          · have hktI : (k : Int) < (T.length : Int) := by omega
            have HBW5 := hidG (blNd HW3.out HS.out HW3.out.size)
            obtain ⟨gl, rfl, y0⟩ := HLR.out k _ hkt HBW5.out
            have x0 := HXR.out _ HBW5.out
            have HST2 : Hid (inL (T.take (k + 1)) s = (tb || inL [T.getD k ⟨#[]⟩] s)) := by
              show _ = _
              rw [inL_step T s hkt, HI.out, List.getD_eq_getElem?_getD, List.getElem?_eq_getElem hkt]; rfl
            have HKT := hidG hkt
            generalize T.getD k ⟨#[]⟩ = tk at y0 HST2
            clear hkt HI
            cases tb with
            | true =>
              have HI2 : Hid (inL (T.take (k + 1)) s = true) := by show _ = _; rw [HST2.out]; rfl
              clear HST2
              go_wp2_with fail
              go_quiet (fail)
              rename Nat => nz
              have HSE : Hid (Below w4.heap.size w4 (W5.drewN nz)) := blNd HS.out ⟨rfl, rfl, rfl, Nat.le_refl _, fun _ _ => rfl⟩ HS.out.size
              generalize W5.drewN nz = wz at HSE ⊢
              clear x0 y0 nz HS
              go_wp2_with fail
              go_roundw
              case rel => exact ⟨k + 1, true, by have := HKT.out; omega, rfl, by go_num, HI2, HSE⟩
              case measure => simp [trI]; have := HKT.out; omega
            | false =>
              by_cases he : tk = s
              · have hb1 : (tk.toList == s.toList) = true := by rw [he]; simp
                have HI2 : Hid (inL (T.take (k + 1)) s = true) := by show _ = _; rw [HST2.out, inL_yes (by rw [he]; simp)]; rfl
                clear HST2 he
                go_wp2_with fail
                go_quiet (fail)
                rename Nat => nz
                have HSE : Hid (Below w4.heap.size w4 (W5.drewN nz)) := blNd HS.out ⟨rfl, rfl, rfl, Nat.le_refl _, fun _ _ => rfl⟩ HS.out.size
                generalize W5.drewN nz = wz at HSE ⊢
                clear x0 y0 nz HS hb1
                go_wp2_with fail
                go_roundw
                case rel => exact ⟨k + 1, true, by have := HKT.out; omega, rfl, by go_num, HI2, HSE⟩
                case measure => simp [trI]; have := HKT.out; omega
              · have hb1 : (tk.toList == s.toList) = false := by
                  rw [beq_eq_false_iff_ne]
                  exact fun e => he (ba_list e)
                have HI2 : Hid (inL (T.take (k + 1)) s = false) := by show _ = _; rw [HST2.out, inL_no (by simpa using fun c => he c.symm)]; rfl
                clear HST2 he
                go_wp2_with fail
                go_quiet (fail)
                rename Nat => nz
                have HSE : Hid (Below w4.heap.size w4 (W5.drewN nz)) := blNd HS.out ⟨rfl, rfl, rfl, Nat.le_refl _, fun _ _ => rfl⟩ HS.out.size
                generalize W5.drewN nz = wz at HSE ⊢
                clear x0 y0 nz HS hb1
                go_wp2_with fail
                go_roundw
                case rel => exact ⟨k + 1, false, by have := HKT.out; omega, rfl, by go_num, HI2, HSE⟩
                case measure => simp [trI]; have := HKT.out; omega
          · have hke : k = T.length := by omega
            have HTB : Hid (tb = t) := by
              show _ = _
              have h := HI.out
              rw [hke, inL_full, HTL.out] at h
              exact h.symm
            have HW5 := hidG (blNd HW3.out HS.out HW3.out.size)
            have hA1 := (HS.out.block na (Array.getElem?_eq_some_iff.1 HN3.out).1).trans HN3.out
            have hB1 := (HS.out.block nb (Array.getElem?_eq_some_iff.1 HM3.out).1).trans HM3.out
            have a0 := cell_of_row _ _ 0 _ _ _ hA1
            have a1 := cell_of_row _ _ 1 _ _ _ hA1
            have a2 := cell_of_row _ _ 2 _ _ _ hA1
            have a3 := cell_of_row _ _ 3 _ _ _ hA1
            have b0 := cell_of_row _ _ 0 _ _ _ hB1
            have b1 := cell_of_row _ _ 1 _ _ _ hB1
            have b2 := cell_of_row _ _ 2 _ _ _ hB1
            have b3 := cell_of_row _ _ 3 _ _ _ hB1
            obtain rfl : tb = t := HTB.out
            have hktI : ¬ (k : Int) < (T.length : Int) := by omega
            have hnq := HNQ.out
            have HCT : Hid (cntT A T (i + 1) = if tb = true then c + 1 else c) := by
              show _ = _
              cases tb with
              | true => rw [HCY.out HTL.out]; rfl
              | false => rw [HCN.out HTL.out]; rfl
            clear hke HI HS hA1 hB1 hk HCY HCN
            have hc20 : c ≤ 20 := by omega
            rcases HRT.out with ⟨rfl, rfl, h3⟩ | ⟨rfl, rfl, h3⟩ | ⟨rfl, h3⟩
            · rw [h3] at hnq
              clear h3 HRT HNQ
              cases tb with
              | true =>
                go_wp2_with fail
                go_roundw
                case rel => exact ⟨i + 1, c + 1, by have := HIN.out; omega, by omega, by go_num, by go_num, HCT.out.symm, HW5⟩
                case measure => simp [trI]; have := HIN.out; omega
              | false =>
                go_wp2_with fail
                go_roundw
                case rel => exact ⟨i + 1, c, by have := HIN.out; omega, by omega, rfl, by go_num, HCT.out.symm, HW5⟩
                case measure => simp [trI]; have := HIN.out; omega
            · subst h3
              clear hnq HRT HNQ
              go_wp2_with fail
              go_roundw
              case rel => exact ⟨i + 1, c + 1, by have := HIN.out; omega, by omega, by go_num, by go_num, HCT.out.symm, HW5⟩
              case measure => simp [trI]; have := HIN.out; omega
            · subst h3
              clear hnq HRT HNQ
              go_wp2_with fail
              go_roundw
              case rel => exact ⟨i + 1, c + 1, by have := HIN.out; omega, by omega, by go_num, by go_num, HCT.out.symm, HW5⟩
              case measure => simp [trI]; have := HIN.out; omega
      · have hie : i = A.length := by omega
        have hltI : ¬ (i : Int) < (A.length : Int) := by omega
        have hge : (T.length : Int) ≤ (c : Int) := by
          have h1 := HCNT.out
          have h2 := HC.out
          rw [hie] at h2
          rw [← h2] at h1
          omega
        have HKW := hidG (HB.out.call HW.out)
        have hsm := HSAME.out
        have hsm2 : (((T.length : Int) == 0) = eqNB L M) := by
          rw [← hsm]
          cases T with
          | nil => rfl
          | cons x xs => show ((((x :: xs).length : Nat) : Int) == 0) = false; rw [beq_eq_false_iff_ne]; simp only [List.length_cons]; omega
        have HSM1 := hidG (HSN.out _ (own4_arg HKW.out.o1) (own4_arg HKW.out.o2))
        have HSM2 := hidG hsm2
        generalize eqNB L M = r at HSM1 HSM2
        clear hie hsm hsm2 HSAME
        have hs2 := HSM2.out
        go_wp2_with fail
        refine HSM1.out.mono ?_
        rintro e w9 ⟨rfl, hb9⟩
        have HE32 := hidG (blNd HKW.out.bel hb9 HKW.out.bel.size)
        clear hb9
        cases r with
        | true =>
          go_wp2_with fail
          go_ret
          exact ⟨rfl, HE32.out⟩
        | false =>
          go_wp2_with fail
          go_ret
          exact ⟨rfl, HE32.out⟩

set_option maxRecDepth 100000 in
theorem lifted (os : Os) (started : os.Started) (H : Type) (enc : TypeId × Value → H) :
    ReturnsInHanded {} Tryd.checked os 3 .any (fun w args => (Rows.fnChangedSpec.pre enc Tryd.prog Tryd.f3 [] false w args ∧ laidMetH Tryd.prog [("unicode/utf8.acceptRanges", Rows.laid_unicode_utf8_acceptRanges), ("unicode/utf8.first", Rows.laid_unicode_utf8_first)] w) ∧ sizedMet enc Tryd.prog Tryd.f3 (OpenSpec.ofChange Rows.fnChangedSpec) false w args) (Rows.fnChangedSpec.post enc Tryd.prog Tryd.f3 false true false false) := by
  refine handed_laid (C := Tryd.checked) (X := fun w => laidMetH Tryd.prog [("unicode/utf8.acceptRanges", Rows.laid_unicode_utf8_acceptRanges), ("unicode/utf8.first", Rows.laid_unicode_utf8_first)] w) (fun _ _ hh h => h.of_heap hh) own started (by kernel_rfl) Tryd.func3
    (ChangeSpec.witness_shaped (enc := enc) (C := Tryd.checked) (os := os) (X := fun w _ => laidMetH Tryd.prog [("unicode/utf8.acceptRanges", Rows.laid_unicode_utf8_acceptRanges), ("unicode/utf8.first", Rows.laid_unicode_utf8_first)] w) false (World.laidAll Tryd.prog os [("unicode/utf8.acceptRanges", Rows.laid_unicode_utf8_acceptRanges), ("unicode/utf8.first", Rows.laid_unicode_utf8_first)]) #[.slice none 0 0] 8 (World.laidAll_os _ _ _) (World.shaped_of_ZipB (by kernel_rfl) (by kernel_rfl)) (by kernel_rfl) (by kernel_rfl) (by kernel_rfl) (by rw [MakeChecks.laidMetH_plain _ _ _ (by kernel_rfl)]; exact laidMet_laidAll _ (by kernel_rfl) (by kernel_rfl))) ?_
  intro W base args ds gs before hval0 hW hL hsh
  have hval : ∀ (j : Nat) t v, Tryd.f3.params[j]? = some t → args[j]? = some v → Value.okWide Tryd.prog W .any base t v := hval0
  have hW' := hW
  obtain ⟨p, q, hA0, hV, rfl, hfz, hnd⟩ := hW
  have hA : DataW.TrodAll enc Tryd.prog W 0 (fun _ => true) true Tryd.f3.params.toList args.toList ds p := hA0
  rw [Tryd.params3] at hA hval
  obtain ⟨v0, vs0, d0, ds0, p0, q0, hargs, rfl, rfl, h0, r0⟩ := trodAll_cons hA
  obtain ⟨rfl, rfl, rfl⟩ := trodAll_nil r0
  obtain rfl : args = #[v0] := by cases args; simp_all
  obtain ⟨rfl, rfl⟩ := trodVars_none hV
  have hMX : MxL W := mx_of_shape hsh
  obtain ⟨a0, len0, cap0, rfl⟩ := okWide_slice Tryd.underlying22 (hval 0 22 v0 rfl rfl)
  have k0 := h0
  have lt0 : ∀ x ∈ p0, x.block < W.heap.size := by obtain ⟨m, hm⟩ := k0; exact DataW.trod_lt m _ _ _ hm
  obtain ⟨z0, w0⟩ : ∃ zs, IsRow .u8 W a0 len0 cap0 zs := by
    obtain ⟨fuel, hf⟩ := h0
    rcases open_ints Tryd.underlying22 Tryd.underlying5 (by kernel_rfl) hf with ⟨hcs, _⟩ | ⟨x, l, c, zs, hcs, _, hl, hm, hz, _, hcell, hwz⟩
    · simp [Value.cells] at hcs
      obtain ⟨rfl, rfl, rfl⟩ := hcs
      exact ⟨[], .inl ⟨rfl, rfl, rfl, rfl⟩⟩
    · simp [Value.cells] at hcs
      obtain ⟨rfl, rfl, rfl⟩ := hcs
      exact ⟨zs, .inr ⟨_, rfl, hl, hm, by simpa using hz, hcell, hwz⟩⟩
  clear hA0 hval0
  refine (walk a0 len0 cap0 z0 W w0 hMX).mono fun e W' ⟨he, bel⟩ => ?_
  subst he
  exact ⟨_, rfl, _, _, _, [], _, [], hW', trodAll_mk1 (shut_bool Tryd.underlying4 _), (trodAll_cons_mk (Below.trod laidOut (by kernel_rfl) (of_decide_eq_true (by kernel_rfl)) k0 bel lt0) trodAll_mk0), rfl, bel.frame _, fun h => by cases h⟩

theorem over : Rows.fnChangedRow.holds Tryd.pinned (OpenSpec.ofChange Rows.fnChangedSpec) :=
  OpenClaim.holds_of_wide 3 Tryd.f3 rfl rfl rfl rfl rfl rfl rfl ⟨rfl, rfl, rfl, rfl, rfl⟩ rfl rfl rfl rfl rfl (by kernel_rfl) Tryd.func3 (by kernel_rfl)
    (of_decide_eq_true (by kernel_rfl)) (by unfold Func.isWrapper; first | (rw [if_pos (by decide +kernel)]; kernel_rfl) | (rw [if_neg (by decide +kernel)]; exact ⟨rfl, rfl⟩))
    (fun os started H enc _ => lifted os started H enc)

theorem proved : Rows.FnChangedCardSaid :=
  Claim7.holds_tied_plain_at .later [] [.data, .pinned] true (true, "b39175cd30609d33a4b57f84a912282a956142eb74f0c9a354d2d31d0469f4a9") false
    over (fun _ h => by cases h) (by kernel_rfl) (fun _ h => by cases h) fnChanged_row_tie rfl ⟨rfl, rfl⟩ (by kernel_rfl) rfl
    (fun f fn hf hfn => by
      obtain rfl : f = 3 := Option.some.inj ((show Tryd.prog.funcNamed "loop.example/g00228/laws.FnChanged" = some 3 by kernel_rfl).symm.trans hf) |>.symm
      obtain rfl : fn = Tryd.f3 := (Option.some.inj (Tryd.func3.symm.trans hfn)).symm
      exact ⟨by kernel_rfl, fun j t ht => by
        have hall : Tryd.f3.params.all (fun t => Tryd.prog.wantsStandIn t == false) = true := by kernel_rfl
        obtain ⟨hj, rfl⟩ := Array.getElem?_eq_some_iff.1 ht
        exact beq_iff_eq.1 (Array.all_eq_true.1 hall j hj)⟩)
    (by kernel_rfl)
#print axioms proved
end Go.Proofs.YtbmcjoaigajjkaaDoor.fnChanged
