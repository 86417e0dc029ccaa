/-
  Several texts of this seat as one: MadeC, RngDq, MadeM.
-/
import Derived.Test.YtbkjcngehhdchaaPk23
import Derived.Test.YtbkjcngehhdchaaPk13
import Derived.Test.YtbkjcngehhdchaaPk19

/-!   What tokens make that a text says, until there are enough bytes: the code's. -/
namespace Go.Proofs.Ytbkjcngehhdchaa
open Go.RowKit
set_option linter.unusedVariables false
set_option linter.unusedSimpArgs false
/-- the token that is read -/
def mkTok (s : DS × Bool) (a : Nat) : (DS × Bool) × TkN := thTok bitR nxtR a 0 0 0 0 s
noncomputable def mkStep (s : DS × Bool) (a : Nat) (o : List Nat) : Option ((DS × Bool) × Nat × List Nat) := open Classical in
  if (mkTok s a).1.2 = true ∧ tokP ((mkTok s a).2.k : Int) ((mkTok s a).2.b : Int) ((mkTok s a).2.d : Int) ((mkTok s a).2.l : Int) (o.length : Int) then some ((mkTok s a).1, (mkTok s a).2.k, tkOut o ⟨((mkTok s a).2.k : Int), ((mkTok s a).2.b : Int), ((mkTok s a).2.d : Int), ((mkTok s a).2.l : Int)⟩) else none
noncomputable def mkRun (n : Nat) : Nat → DS × Bool → Nat → List Nat → Option (List Nat)
  | 0, _, _, o => some o
  | k + 1, s, a, o => if n ≤ o.length then some o else match mkStep s a o with
    | none => none
    | some (s1, a1, o1) => mkRun n k s1 a1 o1
noncomputable def made (S : ByteArray) (n : Nat) : Option (List Nat) := open Classical in if startOk S then mkRun n n (DS.start (code0 S) (bl (rest0 S)), true) 0 [] else none
def mLen : Value → Nat | .slice _ n _ => n | _ => 0
theorem mkTok_k (s : DS × Bool) (a : Nat) : (mkTok s a).2.k < 2 := by
  unfold mkTok thTok
  split
  · show (0 : Nat) < 2; decide
  · show (1 : Nat) < 2; decide
theorem mkRun_enough {n k : Nat} {s : DS × Bool} {a : Nat} {o : List Nat} (h : n ≤ o.length) : mkRun n k s a o = some o := by
  cases k with
  | zero => rfl
  | succ k => unfold mkRun; rw [if_pos h]
theorem mkRun_none {n k : Nat} {s : DS × Bool} {a : Nat} {o : List Nat} (h : o.length < n) (h2 : mkStep s a o = none) : mkRun n (k + 1) s a o = none := by
  unfold mkRun; rw [if_neg (by omega), h2]
theorem mkRun_some {n k : Nat} {s s1 : DS × Bool} {a a1 : Nat} {o o1 : List Nat} (h : o.length < n) (h2 : mkStep s a o = some (s1, a1, o1)) : mkRun n (k + 1) s a o = mkRun n k s1 a1 o1 := by
  conv => lhs; unfold mkRun
  rw [if_neg (by omega), h2]
theorem tkOut_more {o : List Nat} {t : TkI} (hp : tokP t.k t.b t.d t.l (o.length : Int)) : o.length < (tkOut o t).length := by
  unfold tkOut
  split
  · simp
  · rename_i h
    rw [cpI_len]
    obtain ⟨_, ⟨h1, _⟩ | ⟨h1, h2, h3, h4, h5, h6, h7⟩⟩ := hp
    · exact absurd h1 h
    · omega
theorem rthru (bd bo g : Nat) (a : Nat) (ha : a < 2) (s : DS × Bool) (D : Nat → Prop) (w : World) (h : PSr bd bo g w s D) :
    Calls Try.prog 79 #[.agg #[.int .i64 0, .int .i64 0, .int .i64 0, .int .i64 0], .int .i64 (a : Int), .func (.func 87) #[] #[.pointer (some ⟨bd, 0, none⟩), .pointer (some ⟨bo, 0, none⟩)]] w fun e w' => (∃ t, t = (mkTok s a).2 ∧ e = .returned (.agg #[.int .i64 (t.k : Int), .int .i64 (t.b : Int), .int .i64 (t.d : Int), .int .i64 (t.l : Int)])) ∧ ∃ D', PSr bd bo g w' (mkTok s a).1 D' ∧ Kpt D w D' w' :=
  rthrough_any (PSr bd bo g) bitR nxtR (fun _ => 0) 100 bd bo (fun w s D c t h _ hc _ => rdbit_any bd bo g w s D c t h hc) (fun s c t _ => bitR_lt s c t) (fun w w' s D h hk => h.stay hk) (fun w s D h => h.lt) (fun _ _ _ => Nat.zero_le _) a 0 _ _ 0 0 0 s D w ha (by decide) rfl rfl (by decide) (by decide) (by decide) h (by decide)
set_option maxRecDepth 100000 in
set_option maxHeartbeats 1000000 in
theorem madeBy_any (S : ByteArray) (n : Nat) (w : World) (hn : n ≤ 4000) (hs : S.size ≤ 1099511627776) :
    Calls Try.prog 66 #[.string S, .int .i64 (n : Int)] w fun e w' => e = .returned (unAns (made S n)) ∧ Below w.heap.size w w' := by
  by_cases hst : startOk S
  · have HM : Hid (made S n = mkRun n n (DS.start (code0 S) (bl (rest0 S)), true) 0 []) := by show _ = _; unfold made; rw [if_pos hst]
    have HD : Hid (Calls Try.prog 86 #[.string S] w fun e w' => (∃ g, e = .returned (.tuple #[.pointer (some ⟨g, 0, none⟩), .bool true]) ∧ w.heap.size ≤ g ∧ DecAt w' g (DS.start (code0 S) (bl (rest0 S)))) ∧ Below w.heap.size w w') := startD_yes S w hs hst
    have HF0 : Hid ((DS.start (code0 S) (bl (rest0 S))).Fine) := DS.start_fine (pt4_lt (bsOf_lt _) 0) (bl_lt _)
    generalize made S n = R at HM ⊢
    generalize DS.start (code0 S) (bl (rest0 S)) = s0 at *
    clear hst hs
    go_enter Try.func66, Try.ntmps66
    go_wp2_with fail
    refine HD.out.mono ?_
    rintro e w1 ⟨⟨g, rfl, hg, hdec⟩, hb1⟩
    obtain ⟨R0, C0, hrow0, hbl0⟩ := hdec
    have hgl := hrow0.lt
    obtain ⟨w2, hw2⟩ : ∃ w2, w2 = (w1.alloc (.cells #[.pointer (some ⟨g, 0, none⟩)] 129)).alloc (.cells #[.bool true] 4) := ⟨_, rfl⟩
    have hb2 : Below w.heap.size w w2 := by rw [hw2]; exact (hb1.alloc hb1.size _).alloc (by have := hb1.size; simp; omega) _
    have HP2 : Hid (∃ D, PSr w1.heap.size (w1.heap.size + 1) g w2 (s0, true) D) := by
      refine ⟨_, ⟨?_, ?_, ⟨R0, C0, hrow0.of_row ?_, hbl0⟩, HF0.out, by omega, by omega, by omega, rfl⟩⟩
      · rw [hw2]; exact (Below.heap_alloc _ _ _ (by simp)).trans (heap_alloc_new _ _)
      · rw [hw2]
        have := heap_alloc_new (w1.alloc (.cells #[.pointer (some ⟨g, 0, none⟩)] 129)) (.cells #[.bool true] 4)
        simpa using this
      · rw [hw2]; exact (Below.heap_alloc _ _ _ (by simp; omega)).trans (Below.heap_alloc _ _ _ hgl)
    have HSZ : Hid (w.heap.size ≤ g ∧ g < w1.heap.size ∧ w2.heap.size = w1.heap.size + 2 ∧ w.heap.size ≤ w1.heap.size) := ⟨hg, hgl, by rw [hw2]; simp, hb1.size⟩
    have HB2 : Hid (Below w.heap.size w w2) := hb2
    have HW2 : Hid (w2 = _) := hw2
    clear hg hrow0 hbl0 hgl hw2 hb2 hb1 HD HF0
    go_wp2_with fail
    rw [← HW2.out]
    have HTY : Hid (∀ k b d l h w, tokP k b d l h → Calls Try.prog 89 #[.agg #[.int .i64 k, .int .i64 b, .int .i64 d, .int .i64 l], .int .i64 h] w fun e w' => e = .returned (.bool true) ∧ Below w.heap.size w w') := fun k b d l h w hp => tok_yes k b d l h w hp
    have HTN : Hid (∀ k b d l h w, ¬ tokP k b d l h → Calls Try.prog 89 #[.agg #[.int .i64 k, .int .i64 b, .int .i64 d, .int .i64 l], .int .i64 h] w fun e w' => e = .returned (.bool false) ∧ Below w.heap.size w w') := fun k b d l h w hp => tok_no k b d l h w hp
    have HWT : Hid (∀ (o : List Nat) (t : TkI) (B : Nat) (v : Value) (w : World), o.length ≤ 4000 → AllB o → tokP t.k t.b t.d t.l (o.length : Int) → w.ownsRow B 5 1 v o.length (bL o) → B ≤ w.heap.size →
      Calls Try.prog 90 #[v, .agg #[.int .i64 t.k, .int .i64 t.b, .int .i64 t.d, .int .i64 t.l]] w fun e w' => ∃ v', e = .returned v' ∧ w'.ownsRow B 5 1 v' (tkOut o t).length (bL (tkOut o t)) ∧ Below B w w' ∧ (∀ (k : Nat) (cs : Array Value), w.heap[k]? = some (.cells cs 106 (0, 0)) → w'.heap[k]? = some (.cells cs 106 (0, 0)))) := fun o t B v w h1 h2 h3 h4 h5 => withK_any o t B v w h1 h2 h3 h4 h5
    have hnI : (n : Int) ≤ 4000 := by omega
    go_loopw [9, 10] (fun v x wr => ∃ (k a : Nat) (o : List Nat) (s : DS × Bool) (D : Nat → Prop), x = .int .i64 (a : Int) ∧ a < 2 ∧ n ≤ o.length + k ∧ Hid (R = mkRun n k s a o) ∧ Hid (AllB o) ∧ Hid (PSr w1.heap.size (w1.heap.size + 1) g wr s D) ∧ Hid (wr.ownsRow w2.heap.size 5 1 v o.length (bL o)) ∧ Hid (Below w.heap.size w wr ∧ w2.heap.size ≤ wr.heap.size)) (fun v _ _ => n - mLen v)
    case atStart =>
      obtain ⟨D, hD⟩ := HP2.out
      exact ⟨n, 0, [], (s0, true), D, rfl, by decide, by show n ≤ 0 + n; omega, HM, fun x hx => (by cases hx), hD, ⟨rfl, Or.inl ⟨rfl, rfl⟩⟩, HB2.out, Nat.le_refl _⟩
    case round =>
      clear HP2 HM HB2 HW2
      obtain ⟨k, a, o, s, D, rfl, ha, hk, HR, HAB, HP, HO, HB⟩ := hrel
      obtain ⟨ra, rc, rfl⟩ := own_len1 HO.out
      by_cases hlt : o.length < n
      · have hltI : (o.length : Int) < (n : Int) := by omega
        obtain ⟨k, rfl⟩ : ∃ j, k = j + 1 := ⟨k - 1, by omega⟩
        have HTH : Hid (Calls Try.prog 79 #[.agg #[.int .i64 0, .int .i64 0, .int .i64 0, .int .i64 0], .int .i64 (a : Int), .func (.func 87) #[] #[.pointer (some ⟨w1.heap.size, 0, none⟩), .pointer (some ⟨w1.heap.size + 1, 0, none⟩)]] wr fun e w' => (∃ t, t = (mkTok s a).2 ∧ e = .returned (.agg #[.int .i64 (t.k : Int), .int .i64 (t.b : Int), .int .i64 (t.d : Int), .int .i64 (t.l : Int)])) ∧ ∃ D', PSr w1.heap.size (w1.heap.size + 1) g w' (mkTok s a).1 D' ∧ Kpt D wr D' w') := rthru _ _ g a ha s D wr HP.out
        have HKK : Hid ((mkTok s a).2.k < 2) := mkTok_k s a
        have HST : Hid (mkStep s a o = open Classical in if (mkTok s a).1.2 = true ∧ tokP ((mkTok s a).2.k : Int) ((mkTok s a).2.b : Int) ((mkTok s a).2.d : Int) ((mkTok s a).2.l : Int) (o.length : Int) then some ((mkTok s a).1, (mkTok s a).2.k, tkOut o ⟨((mkTok s a).2.k : Int), ((mkTok s a).2.b : Int), ((mkTok s a).2.d : Int), ((mkTok s a).2.l : Int)⟩) else none) := rfl
        generalize (mkTok s a).2 = t at *
        generalize (mkTok s a).1 = sn at *
        go_wp2_with fail
        refine HTH.out.mono ?_
        rintro e w3 ⟨⟨tt, rfl, rfl⟩, D3, hp3, hk3⟩
        have hdom : ∀ k, D k → w.heap.size ≤ k ∧ k < w2.heap.size := fun k hk => by
          have h1 := HP.out.dom
          have h2 := HSZ.out
          rw [h1] at hk
          rcases hk with rfl | rfl | rfl <;> omega
        have hb3 : Below w.heap.size w w3 := bl_trans3 HB.out.1 (hk3.toBelow HB.out.1.size (fun k hk => (hdom k hk).1)) (Nat.le_refl _)
        have hz3 : w2.heap.size ≤ w3.heap.size := Nat.le_trans HB.out.2 hk3.size
        have ho3 : w3.ownsRow w2.heap.size 5 1 (.slice ra o.length rc) o.length (bL o) := owns_row_of HO.out (fun k hk => hk3.block k (HO.out.lt k hk).2 (fun c => by have := (hdom k c).2; have := (HO.out.lt k hk).1; omega))
        obtain ⟨fl, hfl⟩ : ∃ fl, fl = sn.2 := ⟨_, rfl⟩
        have hro := hp3.ro
        rw [← hfl] at hro HST
        have hlo := (Array.getElem?_eq_some_iff.1 hro).1
        have y0 : (w3.alloc (.cells #[.int .i64 (tt.k : Int), .int .i64 (tt.b : Int), .int .i64 (tt.d : Int), .int .i64 (tt.l : Int)] 106)).cell? ⟨w1.heap.size + 1, 0, none⟩ = some (.bool fl) :=
          cell_of_row _ _ _ _ _ _ ((Below.heap_alloc _ _ _ hlo).trans hro)
        have HP3 : Hid (PSr w1.heap.size (w1.heap.size + 1) g w3 sn D3) := hp3
        have HB3 : Hid (Below w.heap.size w w3 ∧ w2.heap.size ≤ w3.heap.size) := ⟨hb3, hz3⟩
        have HO3 : Hid (w3.ownsRow w2.heap.size 5 1 (.slice ra o.length rc) o.length (bL o)) := ho3
        clear hdom hb3 hz3 ho3 hro hlo hp3 hk3 HP HB HO HTH hfl
        have hkk := HKK.out
        cases fl with
        | false =>
          have HN : Hid (R = none) := by
            show R = none
            rw [HR.out]
            exact mkRun_none hlt (by rw [HST.out, if_neg (by rintro ⟨c, _⟩; cases c)])
          clear HST HR
          go_wp2_with fail
          go_ret2
          exact ⟨by rw [HN.out]; rfl, HB3.out.1.alloc HB3.out.1.size _⟩
        | true =>
          go_wp2_with fail
          by_cases hp : tokP (tt.k : Int) (tt.b : Int) (tt.d : Int) (tt.l : Int) (o.length : Int)
          · refine (HTY.out _ _ _ _ _ _ hp).mono ?_
            rintro e w5 ⟨rfl, hb5⟩
            obtain ⟨q, hq⟩ : ∃ q : TkI, q = ⟨(tt.k : Int), (tt.b : Int), (tt.d : Int), (tt.l : Int)⟩ := ⟨_, rfl⟩
            have hr5 : w5.heap[w3.heap.size]? = some (.cells #[.int .i64 (tt.k : Int), .int .i64 (tt.b : Int), .int .i64 (tt.d : Int), .int .i64 (tt.l : Int)] 106 (0, 0)) := (hb5.block _ (by simp)).trans (heap_alloc_new w3 _)
            have HR5 : Hid _ := hr5
            have hz5 : w3.heap.size + 1 ≤ w5.heap.size := by have := hb5.size; simpa using this
            have HO5 : Hid (w5.ownsRow w2.heap.size 5 1 (.slice ra o.length rc) o.length (bL o)) := owns_call1 (HO3.out.alloc _) hb5
            have HP5 : Hid (PSr w1.heap.size (w1.heap.size + 1) g w5 sn D3) := HP3.out.stay (fun k hk => (hb5.block k (by have := HP3.out.lt k hk; simp; omega)).trans (Below.heap_alloc _ _ _ (HP3.out.lt k hk)))
            have HB5 : Hid (Below w.heap.size w w5 ∧ w2.heap.size ≤ w5.heap.size) := ⟨bl_trans3 (HB3.out.1.alloc HB3.out.1.size _) hb5 (by have := HB3.out.1.size; simp; omega), by have := HB3.out.2; omega⟩
            have HCW : Hid (Calls Try.prog 90 #[.slice ra o.length rc, .agg #[.int .i64 (tt.k : Int), .int .i64 (tt.b : Int), .int .i64 (tt.d : Int), .int .i64 (tt.l : Int)]] w5 fun e w' => ∃ v', e = .returned v' ∧ w'.ownsRow w2.heap.size 5 1 v' (tkOut o q).length (bL (tkOut o q)) ∧ Below w2.heap.size w5 w' ∧ (∀ (k : Nat) (cs : Array Value), w5.heap[k]? = some (.cells cs 106 (0, 0)) → w'.heap[k]? = some (.cells cs 106 (0, 0)))) := by
              have h := HWT.out o ⟨(tt.k : Int), (tt.b : Int), (tt.d : Int), (tt.l : Int)⟩ w2.heap.size (.slice ra o.length rc) w5 (by omega) HAB.out hp HO5.out HB5.out.2
              rw [hq]; exact h
            have HRN : Hid (R = mkRun n k sn tt.k (tkOut o q)) := by
              show R = _
              rw [HR.out]
              exact mkRun_some hlt (by rw [HST.out, if_pos ⟨rfl, hp⟩, hq])
            have HMO : Hid (o.length < (tkOut o q).length ∧ AllB (tkOut o q)) := ⟨tkOut_more (by rw [hq]; exact hp), HAB.out.tk (by rw [hq]; exact hp)⟩
            have hit : Option.map (·.size) (Try.prog.info? 106) = some 4 := by kernel_rfl
            have hmo := HMO.out.1
            generalize tkOut o q = o2 at HCW HRN HMO hmo
            clear hb5 HR HST hp hq HO3 HP3 HB3 y0 HAB hr5
            go_wp2_with (refine wpList_load_row rfl 106 _ rfl (w3.heap.size) rfl 106 #[.int .i64 (tt.k : Int), .int .i64 (tt.b : Int), .int .i64 (tt.d : Int), .int .i64 (tt.l : Int)] (0, 0) _ HR5.out Try.underlying106 rfl hit ?_)
            refine HCW.out.mono ?_
            rintro e w6 ⟨v', rfl, ho6, hb6, hk6⟩
            obtain ⟨ra2, rc2, rfl⟩ := own_len1 ho6
            have x0 : w6.cell? ⟨w3.heap.size, 0, none⟩ = some (.int .i64 (tt.k : Int)) := cell_of_row _ _ _ _ _ _ (hk6 _ _ HR5.out)
            have HO6 : Hid (w6.ownsRow w2.heap.size 5 1 (.slice ra2 o2.length rc2) o2.length (bL o2)) := ho6
            have HP6 : Hid (PSr w1.heap.size (w1.heap.size + 1) g w6 sn D3) := HP5.out.stay (fun k hk => hb6.block k (by
              have h1 := HP5.out.dom
              have h2 := HSZ.out
              rw [h1] at hk
              rcases hk with rfl | rfl | rfl <;> omega))
            have HB6 : Hid (Below w.heap.size w w6 ∧ w2.heap.size ≤ w6.heap.size) := ⟨bl_trans3 HB5.out.1 hb6 (by have := HSZ.out; omega), Nat.le_trans HB5.out.2 hb6.size⟩
            clear ho6 hb6 hk6 HO5 HP5 HB5 HR5 HCW hz5
            go_wp2_with fail
            go_roundw
            case rel => exact ⟨k, tt.k, o2, sn, D3, rfl, hkk, by omega, HRN, HMO.out.2, HP6.out, HO6.out, HB6.out⟩
            case measure => simp [mLen]; omega
          · refine (HTN.out _ _ _ _ _ _ hp).mono ?_
            rintro e w5 ⟨rfl, hb5⟩
            have HN : Hid (R = none) := by
              show R = none
              rw [HR.out]
              exact mkRun_none hlt (by rw [HST.out, if_neg (by rintro ⟨_, c⟩; exact hp c)])
            have HB5 : Hid (Below w.heap.size w w5) := bl_trans3 (HB3.out.1.alloc HB3.out.1.size _) hb5 (by have := HB3.out.1.size; simp; omega)
            clear HST HR hb5 hp
            go_wp2_with fail
            go_ret2
            exact ⟨by rw [HN.out]; rfl, HB5.out⟩
      · have HN : Hid (R = some o) := by rw [HR.out]; exact mkRun_enough (by omega)
        have HCV : Hid ((convert 36 9 (.slice ra o.length rc)).run Try.prog wr = .ok (.string (strL o)) wr) := own_str HAB.out HO.out
        have hcv := HCV.out
        clear HR HO HCV HP
        go_wp2_with fail
        go_ret2
        exact ⟨by rw [HN.out]; rfl, HB.out.1⟩
  · have HN : Hid (made S n = none) := by show _ = _; unfold made; rw [if_neg hst]
    have HD : Hid (∀ w, Calls Try.prog 86 #[.string S] w fun e w' => e = .returned (.tuple #[.pointer none, .bool false]) ∧ Below w.heap.size w w') := fun w => startD_no S w hs hst
    generalize made S n = R at HN ⊢
    clear hst hs
    go_enter Try.func66, Try.ntmps66
    go_wp2_with fail
    refine (HD.out _).mono ?_
    rintro e w1 ⟨rfl, hb1⟩
    go_wp2_with fail
    go_ret2
    exact ⟨by rw [HN.out]; rfl, (hb1.alloc hb1.size _).alloc (by have := hb1.size; simp; omega) _⟩
end Go.Proofs.Ytbkjcngehhdchaa

/-!   What was coded, and the coder that reads it from the beginning. -/
namespace Go.Proofs.Ytbkjcngehhdchaa
set_option linter.unusedVariables false
theorem bsOf_bl {S : ByteArray} {i : Nat} (h : i < S.size) : (bl S)[i]? = some (bsOf S i) := by
  have h2 : i < S.data.toList.length := by rw [← Lib.size_eq]; exact h
  unfold bl
  rw [List.getElem?_map, List.getElem?_eq_getElem h2]
  have hb := bsOf_at S i h
  have e : S.data.toList[i] = S[i] := rfl
  rw [e]
  simp only [Option.map_some, Option.some.injEq]
  omega
theorem bl_rest (S : ByteArray) (k : Nat) : bl (S.extract k S.size) = (bl S).drop k := by
  unfold bl
  rw [Lib.extract_to_end, List.map_drop]
theorem bl_len (S : ByteArray) : (bl S).length = S.size := by unfold bl; rw [List.length_map, ← Lib.size_eq]
theorem val_bigL (n : Nat) (h : n < 4294967296) : val ((bigL n 4).map (·.toNat)) = n ∧ (bigL n 4).length = 4 := by
  have e : bigL n 4 = [UInt8.ofNat (n / 256 / 256 / 256), UInt8.ofNat (n / 256 / 256), UInt8.ofNat (n / 256), UInt8.ofNat n] := rfl
  rw [e]
  refine ⟨?_, rfl⟩
  simp only [List.map_cons, List.map_nil, UInt8.toNat_ofNat', val, List.length_cons, List.length_nil]
  omega
theorem encB_bl (s : RS) (h : s.Fine) : bl (encB s) = s.out ++ (bigL (s.low % 4294967296) 4).map (·.toNat) := by
  unfold encB bl
  have e : ((⟨(s.out.map UInt8.ofNat).toArray⟩ ++ ⟨(bigL (s.low % 4294967296) 4).toArray⟩ : ByteArray)).data.toList = s.out.map UInt8.ofNat ++ bigL (s.low % 4294967296) 4 := by simp
  rw [e, List.map_append, List.map_map]
  congr 1
  have : ∀ l : List Nat, (∀ x ∈ l, x < 256) → l.map ((fun x => x.toNat) ∘ UInt8.ofNat) = l := by
    intro l hl
    induction l with
    | nil => rfl
    | cons a l ih =>
      rw [List.map_cons, ih (fun x hx => hl x (List.mem_cons_of_mem _ hx))]
      have ha := hl a (List.mem_cons_self ..)
      congr 1
      simp; omega
  exact this _ h.outs
theorem val_enc (s : RS) (h : s.Fine) : val (bl (encB s)) = s.N ∧ (bl (encB s)).length = s.out.length + 4 := by
  obtain ⟨h1, h2⟩ := val_bigL (s.low % 4294967296) (by omega)
  rw [encB_bl s h]
  refine ⟨?_, by rw [List.length_append, List.length_map, h2]⟩
  rw [val_append, List.length_map, h2, h1]
  unfold RS.N
  omega
/-- the coder that reads, behind the first choices -/
def dq (S : ByteArray) (F : Nat → Int × Int) : Nat → DS
  | 0 => DS.start (code0 S) (bl (rest0 S))
  | i + 1 => (dq S F i).go (F i).1.toNat
set_option maxRecDepth 100000 in
theorem dq_fine (S : ByteArray) (F : Nat → Int × Int) (i : Nat) : (dq S F i).Fine := by
  induction i with
  | zero => exact DS.start_fine (pt4_lt (bsOf_lt _) 0) (bl_lt _)
  | succ i ih => exact ih.go _
theorem okC_ch {F : Nat → Int × Int} {n : Nat} (h : ∀ i, i < n → okCh (F i)) : OkC (chL F n) := by
  intro c hc
  obtain ⟨j, hj, rfl⟩ := List.mem_map.1 hc
  obtain ⟨⟨h1, h2⟩, h3⟩ := h j (List.mem_range.1 hj)
  exact ⟨by show (F j).1.toNat < 512; omega, by show (F j).2.toNat = 0 ∨ (F j).2.toNat = 1; omega⟩
theorem chL_take (F : Nat → Int × Int) (n k : Nat) (h : k ≤ n) : chL F n = chL F k ++ (chL F n).drop k := by
  have e : (chL F n).take k = chL F k := by
    unfold chL
    rw [← List.map_take, List.take_range, Nat.min_eq_left h]
  rw [← e, List.take_append_drop]
set_option maxRecDepth 100000 in
theorem five_val {l : List Nat} (h : l.length = 5) (hb : ∀ x ∈ l, x < 256) (hv : val l < 4294967296) : ∃ b1 b2 b3 b4, l = [0, b1, b2, b3, b4] ∧ val l = ((b1 * 256 + b2) * 256 + b3) * 256 + b4 := by
  match l, h with
  | [b0, b1, b2, b3, b4], _ =>
    have e : val [b0, b1, b2, b3, b4] = b0 * 4294967296 + (((b1 * 256 + b2) * 256 + b3) * 256 + b4) := by
      simp only [val, List.length_cons, List.length_nil]; omega
    have : b0 = 0 := by omega
    subst this
    exact ⟨b1, b2, b3, b4, rfl, by rw [e, Nat.zero_mul, Nat.zero_add]⟩
set_option maxRecDepth 100000 in
theorem enc_start (F : Nat → Int × Int) (n : Nat) (hok : ∀ i, i < n → okCh (F i)) :
    startOk (encB (RS.start.run (chL F n))) ∧ At (val (bl (encB (RS.start.run (chL F n))))) (bl (encB (RS.start.run (chL F n)))) RS.start (code0 (encB (RS.start.run (chL F n)))) (bl (rest0 (encB (RS.start.run (chL F n))))) := by
  have hs0 : 16777216 ≤ RS.start.width := by show 16777216 ≤ 4294967295; omega
  obtain ⟨hf, hw⟩ := run_fine RS.start_fine hs0 (chL F n)
  obtain ⟨k, hk⟩ := sub_run RS.start_fine hs0 (okC_ch hok)
  obtain ⟨hv, hl⟩ := val_enc _ hf
  generalize RS.start.run (chL F n) = t at *
  obtain ⟨c, hA⟩ := at_of_sub (Y := bl (encB t)) hk (by omega) hl hv
  have ho : RS.start.out.length = 1 := rfl
  have hN : RS.start.N = 0 := by unfold RS.N; rw [show RS.start.out = [0] from rfl]; rfl
  rw [ho] at hA
  have hle := hA.le
  have hn := hA.n
  have hlt := hA.lt
  rw [ho] at hle hn
  rw [hN, Nat.zero_add] at hn
  have hlt2 : c < 4294967295 := hlt
  clear hlt ho hN
  generalize encB t = S at *
  have hb := bl_lt S
  have hsz := bl_len S
  have e1 : bl S = (bl S).take 5 ++ (bl S).drop 5 := (List.take_append_drop 5 _).symm
  have e2 : val (bl S) = val ((bl S).take 5) * 256 ^ ((bl S).length - 5) + val ((bl S).drop 5) := by
    have : val (bl S) = val ((bl S).take 5 ++ (bl S).drop 5) := by rw [← e1]
    rw [this, val_append, List.length_drop]
  have hr : val ((bl S).drop 5) < 256 ^ ((bl S).length - 5) := by
    have := val_lt ((bl S).drop 5) (fun x hx => hb x (List.mem_of_mem_drop hx))
    rwa [List.length_drop] at this
  have hc : val ((bl S).take 5) = c := by
    rw [← hn, e2]
    have hp : 0 < 256 ^ ((bl S).length - 5) := Nat.pow_pos (by omega)
    rw [Nat.add_comm, Nat.add_mul_div_right _ _ hp, Nat.div_eq_of_lt hr]; omega
  obtain ⟨b1, b2, b3, b4, e3, e4⟩ := five_val (l := (bl S).take 5) (by rw [List.length_take]; omega) (fun x hx => hb x (List.mem_of_mem_take hx)) (by omega)
  have hat : ∀ i, i < 5 → bsOf S i = ([0, b1, b2, b3, b4] : List Nat).getD i 0 := fun i hi => by
    have h1 := bsOf_bl (S := S) (i := i) (by omega)
    have h2 : ((bl S).take 5)[i]? = (bl S)[i]? := by rw [List.getElem?_take, if_pos hi]
    rw [e3, h1] at h2
    rw [List.getD_eq_getElem?_getD, h2]; rfl
  have hx : ∀ i, i < 4 → bsOf (S.extract 1 S.size) i = bsOf S (i + 1) := fun i hi => by
    have h1 := bsOf_bl (S := S.extract 1 S.size) (i := i) (by rw [ByteArray.size_extract]; omega)
    have h2 := bsOf_bl (S := S) (i := i + 1) (by omega)
    rw [bl_rest, List.getElem?_drop, Nat.add_comm 1 i, h2] at h1
    exact (Option.some.inj h1).symm
  have hcode : code0 S = c := by
    unfold code0
    have e : pt (bsOf (S.extract 1 S.size)) 0 4 = ((bsOf (S.extract 1 S.size) 0 * 256 + bsOf (S.extract 1 S.size) 1) * 256 + bsOf (S.extract 1 S.size) 2) * 256 + bsOf (S.extract 1 S.size) 3 := by
      simp [pt]
    rw [e, hx 0 (by omega), hx 1 (by omega), hx 2 (by omega), hx 3 (by omega), hat 1 (by omega), hat 2 (by omega), hat 3 (by omega), hat 4 (by omega), ← hc, e4]
    rfl
  have hrest : bl (rest0 S) = (bl S).drop 5 := by unfold rest0; exact bl_rest S 5
  refine ⟨⟨by omega, by rw [hat 0 (by omega)]; rfl⟩, ?_⟩
  rw [hcode, hrest]
  exact hA
/-- he reads what was written, choice by choice -/
theorem dq_at (F : Nat → Int × Int) (n : Nat) (hok : ∀ i, i < n → okCh (F i)) (S : ByteArray) (hS : S = encB (RS.start.run (chL F n))) : ∀ i, i ≤ n →
    (∃ c r, At (val (bl S)) (bl S) (RS.start.run (chL F i)) c r ∧ dq S F i = ⟨(RS.start.run (chL F i)).width, c, (RS.start.run (chL F i)).probs, r⟩) ∧
    (∀ j, j < i → (dq S F j).ok (F j).1.toNat = true ∧ (dq S F j).tell (F j).1.toNat = (F j).2.toNat) := by
  intro i
  induction i with
  | zero =>
    intro _
    refine ⟨⟨code0 S, bl (rest0 S), by rw [hS]; exact (enc_start F n hok).2, rfl⟩, fun j hj => absurd hj (by omega)⟩
  | succ i ih =>
    intro hi
    obtain ⟨⟨c, r, hA, hD⟩, hT⟩ := ih (by omega)
    obtain ⟨hf, hw⟩ := run_fine RS.start_fine (by decide) (chL F i)
    obtain ⟨hft, hwt⟩ := run_fine RS.start_fine (by decide) (chL F n)
    obtain ⟨hv, hl⟩ := val_enc _ hft
    rw [← hS] at hv hl
    have hO := okC_ch hok
    have e1 : RS.start.run (chL F n) = (RS.start.run (chL F (i + 1))).run ((chL F n).drop (i + 1)) := by rw [← run_append, ← chL_take F n (i + 1) hi]
    obtain ⟨hf2, hw2⟩ := run_fine RS.start_fine (by decide) (chL F (i + 1))
    obtain ⟨k, hk⟩ := sub_run hf2 hw2 (l := (chL F n).drop (i + 1)) (fun d hd => hO d (List.mem_of_mem_drop hd))
    rw [← e1, run_succ] at hk
    obtain ⟨⟨h1, h2⟩, h3⟩ := hok i (by omega)
    obtain ⟨c', r', a', t', o', g'⟩ := at_go rfl (bl_lt S) hA hf hw (by omega : (F i).2.toNat = 0 ∨ (F i).2.toNat = 1) hk (by omega) hl hv
    rw [← hD] at t' o' g'
    refine ⟨⟨c', r', by rw [run_succ]; exact a', by rw [run_succ]; exact g'⟩, fun j hj => ?_⟩
    by_cases e : j = i
    · subst e; exact ⟨o', t'⟩
    · exact hT j (by omega)
end Go.Proofs.Ytbkjcngehhdchaa

/-!   What was packed is made again: as plain mathematics. -/
namespace Go.Proofs.Ytbkjcngehhdchaa
open Go.RowKit
set_option linter.unusedVariables false
theorem treeN_all (v : Nat) : ∀ k nd, treeN v k nd = nd * 2 ^ k + v % 2 ^ k
  | 0, nd => by simp [treeN, Nat.mod_one]
  | k + 1, nd => by
    show treeN v k (2 * nd + v / 2 ^ k % 2) = _
    rw [treeN_all v k, Nat.mod_pow_succ, Nat.pow_succ, Nat.add_mul]
    have e1 : 2 * nd * 2 ^ k = nd * (2 ^ k * 2) := by rw [Nat.mul_comm 2 nd, Nat.mul_assoc, Nat.mul_comm 2]
    rw [e1, Nat.mul_comm (v / 2 ^ k % 2)]
    omega
/-- who reads these choices, one by one -/
def Reads (Q : Nat → DS × Bool) (L : List (Nat × Nat)) : Prop := ∀ j c b t, L[j]? = some (c, b) → bitR (Q j) c t = b ∧ nxtR (Q j) c t = Q (j + 1)
theorem rdT {Q : Nat → DS × Bool} {L : List (Nat × Nat)} (H : Reads Q L) (f v : Nat) (z : Int) : ∀ (k nd j : Nat), (∀ i, i < k → L[j + i]? = (treeL f v k nd)[i]?) → thT bitR nxtR f z k nd (Q j) = (Q (j + k), treeN v k nd)
  | 0, nd, j, _ => rfl
  | k + 1, nd, j, h => by
    have h0 : L[j]? = some (f + nd, v / 2 ^ k % 2) := by have := h 0 (by omega); simpa [treeL] using this
    obtain ⟨e1, e2⟩ := H j _ _ (tvT z k) h0
    show thT bitR nxtR f z k (2 * nd + bitR (Q j) (f + nd) (tvT z k)) (nxtR (Q j) (f + nd) (tvT z k)) = _
    rw [e1, e2, rdT H f v z k (2 * nd + v / 2 ^ k % 2) (j + 1) (fun i hi => by
      have := h (i + 1) (by omega)
      rw [show j + (i + 1) = j + 1 + i by omega] at this
      rw [this]; simp [treeL])]
    rw [show j + 1 + k = j + (k + 1) by omega]
    rfl
def TkEx (t : TkN) : Prop := (t.k = 0 ∧ t.b < 256 ∧ t.d = 0 ∧ t.l = 0) ∨ (t.k = 1 ∧ t.b = 0 ∧ 1 ≤ t.d ∧ t.d ≤ 4096 ∧ 3 ≤ t.l ∧ t.l ≤ 66)
theorem rdTok {Q : Nat → DS × Bool} {L : List (Nat × Nat)} (H : Reads Q L) (a : Nat) (t : TkN) (ht : TkEx t) (j : Nat) (h : ∀ i, i < (tokCh a t).length → L[j + i]? = (tokCh a t)[i]?) : mkTok (Q j) a = (Q (j + (tokCh a t).length), t) := by
  obtain ⟨k, b, d, l⟩ := t
  rcases ht with ⟨h1, h2, h3, h4⟩ | ⟨h1, h2, h3, h4, h5, h6⟩
  · simp only at h1 h2 h3 h4
    subst h1; subst h3; subst h4
    have e : tokCh a ⟨0, b, 0, 0⟩ = (a, 0) :: treeL 1 b 8 1 := by unfold tokCh; rw [if_pos rfl]
    rw [e] at h ⊢
    have hl : ((a, 0) :: treeL 1 b 8 1).length = 9 := by rw [List.length_cons, treeL_len]
    rw [hl] at h ⊢
    obtain ⟨e1, e2⟩ := H j a 0 0 (by have := h 0 (by omega); simpa using this)
    unfold mkTok thTok
    rw [e1, e2, if_pos rfl, rdT H 1 b 0 8 1 (j + 1) (fun i hi => by
      have := h (i + 1) (by omega)
      rw [show j + (i + 1) = j + 1 + i by omega] at this
      rw [this]; simp), treeN_all, Nat.mod_eq_of_lt (by simpa using h2)]
    simp [Nat.add_assoc]
  · simp only at h1 h2 h3 h4 h5 h6
    subst h1; subst h2
    have e : tokCh a ⟨1, 0, d, l⟩ = (a, 1) :: (treeL 260 (l - 3) 6 1 ++ treeL 330 ((d - 1) / 64) 6 1 ++ treeL 400 ((d - 1) % 64) 6 1) := by unfold tokCh; rw [if_neg (show ¬ (1 : Nat) = 0 by decide)]
    rw [e] at h ⊢
    have hl : ((a, 1) :: (treeL 260 (l - 3) 6 1 ++ treeL 330 ((d - 1) / 64) 6 1 ++ treeL 400 ((d - 1) % 64) 6 1)).length = 19 := by simp [treeL_len]
    rw [hl] at h ⊢
    obtain ⟨e1, e2⟩ := H j a 1 0 (by have := h 0 (by omega); simpa using this)
    have hA : ∀ i, i < 6 → L[j + 1 + i]? = (treeL 260 (l - 3) 6 1)[i]? := fun i hi => by
      have := h (i + 1) (by omega)
      rw [show j + (i + 1) = j + 1 + i by omega] at this
      rw [this, List.getElem?_cons_succ, List.append_assoc, List.getElem?_append_left (by rw [treeL_len]; exact hi)]
    have hB : ∀ i, i < 6 → L[j + 1 + 6 + i]? = (treeL 330 ((d - 1) / 64) 6 1)[i]? := fun i hi => by
      have := h (i + 7) (by omega)
      rw [show j + (i + 7) = j + 1 + 6 + i by omega] at this
      rw [this, show i + 7 = (i + 6) + 1 by omega, List.getElem?_cons_succ, List.append_assoc, List.getElem?_append_right (by rw [treeL_len]; omega), treeL_len, show i + 6 - 6 = i by omega, List.getElem?_append_left (by rw [treeL_len]; exact hi)]
    have hC : ∀ i, i < 6 → L[j + 1 + 6 + 6 + i]? = (treeL 400 ((d - 1) % 64) 6 1)[i]? := fun i hi => by
      have := h (i + 13) (by omega)
      rw [show j + (i + 13) = j + 1 + 6 + 6 + i by omega] at this
      rw [this, show i + 13 = (i + 12) + 1 by omega, List.getElem?_cons_succ, List.getElem?_append_right (by simp [treeL_len]), List.length_append, treeL_len, treeL_len, show i + 12 - (6 + 6) = i by omega]
    unfold mkTok thTok
    rw [e1, e2, if_neg (show ¬ (1 : Nat) = 0 by decide)]
    simp only [rdT H 260 (l - 3) _ 6 1 (j + 1) hA, rdT H 330 ((d - 1) / 64) _ 6 1 (j + 1 + 6) hB, rdT H 400 ((d - 1) % 64) _ 6 1 (j + 1 + 6 + 6) hC, treeN_all]
    rw [Nat.mod_eq_of_lt (show l - 3 < 2 ^ 6 by omega), Nat.mod_eq_of_lt (show (d - 1) / 64 < 2 ^ 6 by omega), Nat.mod_eq_of_lt (show (d - 1) % 64 < 2 ^ 6 by omega)]
    have q1 : (1 * 2 ^ 6 + (d - 1) / 64 - 2 ^ 6) * 64 + (1 * 2 ^ 6 + (d - 1) % 64 - 2 ^ 6) + 1 = d := by omega
    have q2 : 1 * 2 ^ 6 + (l - 3) - 2 ^ 6 + 3 = l := by omega
    rw [q1, q2]
theorem tkG_ex {s : ByteArray} (hs : s.size ≤ 4000) (i : Nat) (h : i < (tkL s).length) : TkEx (tkG s i) ∧ tokP ((tkG s i).k : Int) ((tkG s i).b : Int) ((tkG s i).d : Int) ((tkG s i).l : Int) ((bytesL s (atS s i)).length : Int) ∧ tkOut (bytesL s (atS s i)) ⟨((tkG s i).k : Int), ((tkG s i).b : Int), ((tkG s i).d : Int), ((tkG s i).l : Int)⟩ = bytesL s (atS s (i + 1)) ∧ atS s i < s.size := by
  obtain ⟨q1, q2, q3⟩ := (tkL_shape s).1 i h
  have e : tkG s i = tokAt s (atS s i) := by unfold tkG; rw [List.getD_eq_getElem?_getD, q2]; rfl
  obtain ⟨h0, h2⟩ := tok_ok hs q1
  rw [← e] at h0 h2
  rw [q3, bytesL_len]
  refine ⟨?_, h0, h2, q1⟩
  obtain ⟨_, h1⟩ := h0
  generalize tkG s i = t at h1
  obtain ⟨k, b, d, l⟩ := t
  simp only [tkI] at h1
  unfold TkEx
  show (k = 0 ∧ b < 256 ∧ d = 0 ∧ l = 0) ∨ (k = 1 ∧ b = 0 ∧ 1 ≤ d ∧ d ≤ 4096 ∧ 3 ≤ l ∧ l ≤ 66)
  rcases h1 with ⟨h1, h2, h3, h4⟩ | ⟨h1, h2, h3, h4, _, h5, h6⟩
  · exact Or.inl ⟨by omega, by omega, by omega, by omega⟩
  · exact Or.inr ⟨by omega, by omega, by omega, by omega, by omega, by omega⟩
theorem choUp_pre (G : Nat → TkN) (i : Nat) : ∀ m, ∃ r, (choUp G (i + m)).1 = (choUp G i).1 ++ r
  | 0 => ⟨[], by simp⟩
  | m + 1 => by
    obtain ⟨r, hr⟩ := choUp_pre G i m
    exact ⟨r ++ tokCh (choUp G (i + m)).2 (G (i + m)), by show (choUp G (i + m)).1 ++ _ = _; rw [hr, List.append_assoc]; rfl⟩
theorem run_made {s : ByteArray} (hs : s.size ≤ 4000) {Q : Nat → DS × Bool} (H : Reads Q (choS s)) (hQ : ∀ j, (Q j).2 = true) : ∀ (m i k : Nat), i + m = (tkL s).length → s.size ≤ atS s i + k →
    mkRun s.size k (Q (choUp (tkG s) i).1.length) (choUp (tkG s) i).2 (bytesL s (atS s i)) = some (bytesL s s.size)
  | 0, i, k, hi, hk => by
    have e : atS s i = s.size := by rw [show i = (tkL s).length by omega]; exact (tkL_shape s).2.1
    rw [e, mkRun_enough (by rw [bytesL_len]; exact Nat.le_refl _)]
  | m + 1, i, k, hi, hk => by
    obtain ⟨g1, g2, g3, g4⟩ := tkG_ex hs i (by omega)
    obtain ⟨k, rfl⟩ : ∃ q, k = q + 1 := ⟨k - 1, by omega⟩
    have hp : ∀ x, x < (tokCh (choUp (tkG s) i).2 (tkG s i)).length → (choS s)[(choUp (tkG s) i).1.length + x]? = (tokCh (choUp (tkG s) i).2 (tkG s i))[x]? := fun x hx => by
      obtain ⟨r, hr⟩ := choUp_pre (tkG s) (i + 1) m
      have e : choS s = ((choUp (tkG s) i).1 ++ tokCh (choUp (tkG s) i).2 (tkG s i)) ++ r := by
        unfold choS; rw [← hi, show i + (m + 1) = i + 1 + m by omega, hr]; rfl
      rw [e, List.append_assoc, List.getElem?_append_right (by omega), show (choUp (tkG s) i).1.length + x - (choUp (tkG s) i).1.length = x by omega, List.getElem?_append_left hx]
    have hT := rdTok H (choUp (tkG s) i).2 (tkG s i) g1 (choUp (tkG s) i).1.length hp
    have hst : mkStep (Q (choUp (tkG s) i).1.length) (choUp (tkG s) i).2 (bytesL s (atS s i)) = some (Q ((choUp (tkG s) i).1.length + (tokCh (choUp (tkG s) i).2 (tkG s i)).length), (tkG s i).k, bytesL s (atS s (i + 1))) := by
      unfold mkStep
      rw [hT]
      simp only []
      rw [if_pos ⟨hQ _, g2⟩, g3]
    rw [mkRun_some (by rw [bytesL_len]; exact g4) hst]
    have e2 : (choUp (tkG s) i).1.length + (tokCh (choUp (tkG s) i).2 (tkG s i)).length = (choUp (tkG s) (i + 1)).1.length := by
      show _ = ((choUp (tkG s) i).1 ++ tokCh (choUp (tkG s) i).2 (tkG s i)).length
      rw [List.length_append]
    rw [e2]
    have hat : atS s i < atS s (i + 1) := by
      obtain ⟨q1, q2, q3⟩ := (tkL_shape s).1 i (by omega)
      have := tkOut_more (t := ⟨((tkG s i).k : Int), ((tkG s i).b : Int), ((tkG s i).d : Int), ((tkG s i).l : Int)⟩) g2
      rw [g3, bytesL_len, bytesL_len] at this
      exact this
    exact run_made hs H hQ m (i + 1) k (by omega) (by omega)
/-- what was packed is made again -/
theorem made_pack {s : ByteArray} (hs : s.size ≤ 4000) : made (pckR s) s.size = some (bytesL s s.size) := by
  have hok := (choS_chOk hs).2
  have hst := (enc_start (chF (choS s)) (choS s).length hok).1
  rw [chL_chF] at hst
  have hT := (dq_at (chF (choS s)) (choS s).length hok (pckR s) (by rw [chL_chF]; rfl) (choS s).length (Nat.le_refl _)).2
  have H : Reads (fun j => (dq (pckR s) (chF (choS s)) j, true)) (choS s) := fun j c b t hj => by
    obtain ⟨hl, hg⟩ := List.getElem?_eq_some_iff.1 hj
    obtain ⟨o1, o2⟩ := hT j hl
    rw [chF_at hl, hg] at o1 o2
    simp only [Int.toNat_natCast] at o1 o2
    refine ⟨o2, ?_⟩
    show ((dq (pckR s) (chF (choS s)) j).go c, true && (dq (pckR s) (chF (choS s)) j).ok c) = ((dq (pckR s) (chF (choS s)) j).go (chF (choS s) j).1.toNat, true)
    rw [o1, chF_at hl, hg]; rfl
  unfold made
  rw [if_pos (show startOk (pckR s) from hst)]
  exact run_made hs H (fun _ => rfl) (tkL s).length 0 s.size (by omega) (by omega)
end Go.Proofs.Ytbkjcngehhdchaa
