/-
  The text of tokens: the code's.
-/
import Derived.Test.YtmckchklebohmanUnW
namespace Go.Proofs.Ytmckchklebohman
open Go.RowKit
set_option linter.unusedVariables false
set_option linter.unusedSimpArgs false

/-- a slice of tokens, laid or made -/
structure TkRow (w : World) (g n : Nat) (F : Nat → TkI) : Prop where
  lt : g < w.heap.size
  c0 : ∀ i, i < n → w.cell? ⟨g, 4 * i, none⟩ = some (.int .i64 (F i).k)
  c1 : ∀ i, i < n → w.cell? ⟨g, 4 * i + 1, none⟩ = some (.int .i64 (F i).b)
  c2 : ∀ i, i < n → w.cell? ⟨g, 4 * i + 2, none⟩ = some (.int .i64 (F i).d)
  c3 : ∀ i, i < n → w.cell? ⟨g, 4 * i + 3, none⟩ = some (.int .i64 (F i).l)
theorem TkRow.below {w w' : World} {g n B : Nat} {F : Nat → TkI} (h : TkRow w g n F) (hb : Below B w w') (hg : g < B) : TkRow w' g n F :=
  ⟨Nat.lt_of_lt_of_le h.lt hb.size, fun i hi => (hb.cell hg).trans (h.c0 i hi), fun i hi => (hb.cell hg).trans (h.c1 i hi), fun i hi => (hb.cell hg).trans (h.c2 i hi), fun i hi => (hb.cell hg).trans (h.c3 i hi)⟩
def unAns : Option (List Nat) → Value
  | some o => .tuple #[.string (strL o), .bool true]
  | none => .tuple #[.string ⟨#[]⟩, .bool false]
set_option maxRecDepth 100000 in
set_option maxHeartbeats 2000000 in
theorem un_some (g c n : Nat) (F : Nat → TkI) (w : World) (hn : n ≤ 4000) (hrow : TkRow w g n F) :
    Calls Try.prog 17 #[.slice (some ⟨g, 0, none⟩) n c] w fun e w' => e = .returned (unAns (unPre F n)) ∧ Below w.heap.size w w' := by
  have hnI : (n : Int) ≤ 4000 := by omega
  have hnI2 : ¬ (4000 : Int) < (n : Int) := by omega
  have HT : Hid (∀ w' B, Below B w w' → w.heap.size ≤ B → TkRow w' g n F) := fun w' B hb hB => hrow.below hb (Nat.lt_of_lt_of_le hrow.lt hB)
  have HTY : Hid (∀ k b d l h w, tokP k b d l h → Calls Try.prog 36 #[tokV k b d l, .int .i64 h] w fun e w' => e = .returned (.bool true) ∧ Below w.heap.size w w') := fun k b d l h w hp => tok_yes k b d l h w hp
  have HTN : Hid (∀ k b d l h w, ¬ tokP k b d l h → Calls Try.prog 36 #[tokV k b d l, .int .i64 h] w fun e w' => e = .returned (.bool false) ∧ Below w.heap.size w w') := fun k b d l h w hp => tok_no k b d l h w hp
  have HW : Hid (∀ (o : List Nat) (t : TkI) (B : Nat) (v : Value) (w : World), o.length ≤ 4000 → AllB o → tokP t.k t.b t.d t.l (o.length : Int) → w.ownsRow B 5 1 v o.length (bL o) → B ≤ w.heap.size →
    Calls Try.prog 37 #[v, tokV t.k t.b t.d t.l] w fun e w' => ∃ v', e = .returned v' ∧ w'.ownsRow B 5 1 v' (tkOut o t).length (bL (tkOut o t)) ∧ Below B w w') := fun o t B v w h1 h2 h3 h4 h5 => withT_any o t B v w h1 h2 h3 h4 h5
  unfold tokV at HTY HTN HW
  go_enter Try.func17, Try.ntmps17
  go_wp2_with fail
  go_loopw [4, 12] (fun v x wr => ∃ (i : Nat) (o : List Nat), i ≤ n ∧ x = .int .i64 (i : Int) ∧ Hid (unPre F i = some o ∧ wr.ownsRow w.heap.size 5 1 v o.length (bL o) ∧ Below w.heap.size w wr)) (fun _ x _ => n - (lonIntOf x).toNat)
  case atStart => exact ⟨0, [], by omega, rfl, rfl, ⟨rfl, Or.inl ⟨rfl, rfl⟩⟩, Below.refl _ _⟩
  case round =>
    obtain ⟨i, o, hi, rfl, HR⟩ := hrel
    obtain ⟨hbo, hlo⟩ := unPre_bytes HR.out.1
    have HBO : Hid (AllB o) := hbo
    have hloI : (o.length : Int) ≤ 4000 := by omega
    clear hbo
    obtain ⟨a, cv, rfl⟩ := own_len1 HR.out.2.1
    by_cases hlt : i < n
    · have hltI : (i : Int) < (n : Int) := by omega
      obtain ⟨q, hq⟩ : ∃ q, q = 4 * i := ⟨_, rfl⟩
      have hr := HT.out wr w.heap.size HR.out.2.2 (Nat.le_refl _)
      have x0 := hr.c0 i hlt
      have x1 := hr.c1 i hlt
      have x2 := hr.c2 i hlt
      have x3 := hr.c3 i hlt
      rw [← hq] at x0 x1 x2 x3
      have hiq : i * 4 = q := by omega
      have HST := unPre_step HR.out.1
      have HST : Hid (unPre F (i + 1) = unT o (F i)) := HST
      clear hr hq
      generalize hF : F i = t at x0 x1 x2 x3 HST
      obtain ⟨k, b, d, l⟩ := t
      simp only at x0 x1 x2 x3
      clear hF
      go_wp2_with fail
      have HNO : Hid (unT o ⟨k, b, d, l⟩ = none → unPre F n = none) := fun h => by
        have := unPre_none (HST.out.trans h) (n - (i + 1))
        rwa [show i + 1 + (n - (i + 1)) = n by omega] at this
      by_cases hp : tokP k b d l (o.length : Int)
      · refine (HTY.out k b d l _ _ hp).mono ?_
        rintro e w3 ⟨rfl, hb3⟩
        have hr3 : Hid (w3.heap[wr.heap.size]? = some (.cells #[.int .i64 k, .int .i64 b, .int .i64 d, .int .i64 l] 49 (0, 0))) := (hb3.block _ (by simp)).trans (heap_alloc_new wr _)
        have hb1 : Below w.heap.size w (wr.alloc (.cells #[.int .i64 k, .int .i64 b, .int .i64 d, .int .i64 l] 49)) := HR.out.2.2.alloc HR.out.2.2.size _
        have H3 : Hid (w3.ownsRow w.heap.size 5 1 (.slice a o.length cv) o.length (bL o) ∧ Below w.heap.size w w3) := ⟨owns_call1 (HR.out.2.1.alloc _) hb3, bl_trans3 hb1 hb3 hb1.size⟩
        have HP : Hid (tokP k b d l (o.length : Int)) := hp
        have hit : Option.map (·.size) (Try.prog.info? 49) = some 4 := by kernel_rfl
        clear hb3 hb1 HR x0 x1 x2 x3 hp
        go_wp2_with (refine wpList_load_row rfl 49 _ rfl (wr.heap.size) rfl 49 #[.int .i64 k, .int .i64 b, .int .i64 d, .int .i64 l] (0, 0) _ hr3.out Try.underlying49 rfl hit ?_)
        refine (HW.out o ⟨k, b, d, l⟩ w.heap.size _ w3 hlo HBO.out HP.out H3.out.1 H3.out.2.size).mono ?_
        rintro e w4 ⟨v', rfl, hown4, hb4⟩
        obtain ⟨a', c', rfl⟩ := own_len1 hown4
        have H4 : Hid (w4.ownsRow w.heap.size 5 1 (.slice a' (tkOut o ⟨k, b, d, l⟩).length c') (tkOut o ⟨k, b, d, l⟩).length (bL (tkOut o ⟨k, b, d, l⟩)) ∧ Below w.heap.size w w4) := ⟨hown4, bl_trans3 H3.out.2 hb4 (Nat.le_refl _)⟩
        clear hown4 hb4 H3 hr3
        by_cases h4 : (tkOut o ⟨k, b, d, l⟩).length ≤ 4000
        · have HS1 : Hid (unPre F (i + 1) = some (tkOut o ⟨k, b, d, l⟩)) := HST.out.trans (unT_yes HP.out h4)
          clear HST HNO HP
          generalize tkOut o ⟨k, b, d, l⟩ = o2 at H4 HS1 h4 ⊢
          have h4I : ¬ (4000 : Int) < (o2.length : Int) := by omega
          go_wp2_with fail
          go_roundw
          case rel => exact ⟨i + 1, o2, by omega, by go_num, HS1.out, H4.out.1, H4.out.2⟩
          case measure => simp [lonIntOf]; omega
        · have HN : Hid (unPre F n = none) := HNO.out (unT_long h4)
          clear HST HNO HP
          generalize tkOut o ⟨k, b, d, l⟩ = o2 at H4 h4 ⊢
          have h4I : (4000 : Int) < (o2.length : Int) := by omega
          go_wp2_with fail
          go_ret2
          exact ⟨by rw [HN.out]; rfl, H4.out.2⟩
      · refine (HTN.out k b d l _ _ hp).mono ?_
        rintro e w3 ⟨rfl, hb3⟩
        have hb1 : Below w.heap.size w (wr.alloc (.cells #[.int .i64 k, .int .i64 b, .int .i64 d, .int .i64 l] 49)) := HR.out.2.2.alloc HR.out.2.2.size _
        have H3 : Hid (Below w.heap.size w w3) := bl_trans3 hb1 hb3 hb1.size
        have HN : Hid (unPre F n = none) := HNO.out (unT_no hp)
        clear hb3 hb1 HR x0 x1 x2 x3 hp HNO HST
        go_wp2_with fail
        go_ret2
        exact ⟨by rw [HN.out]; rfl, H3.out⟩
    · obtain rfl : i = n := by omega
      have HCV : Hid ((convert 55 9 (.slice a o.length cv)).run Try.prog wr = .ok (.string (strL o)) wr) := own_str HBO.out HR.out.2.1
      have hcv := HCV.out
      have HP : Hid (unPre F i = some o) := HR.out.1
      have HB : Hid (Below w.heap.size w wr) := HR.out.2.2
      clear HR HCV
      go_wp2_with fail
      go_ret2
      exact ⟨by rw [HP.out]; rfl, HB.out⟩
set_option maxRecDepth 100000 in
theorem un_long (a : Option Addr) (c n : Nat) (w : World) (hn : 4000 < n) :
    Calls Try.prog 17 #[.slice a n c] w fun e w' => e = .returned (unAns none) ∧ Below w.heap.size w w' := by
  have hnI : (4000 : Int) < (n : Int) := by omega
  go_enter Try.func17, Try.ntmps17
  go_wp2_with fail
  go_ret2
  exact ⟨rfl, Below.refl _ _⟩
set_option maxRecDepth 100000 in
theorem un_zero (a : Option Addr) (c : Nat) (w : World) :
    Calls Try.prog 17 #[.slice a 0 c] w fun e w' => e = .returned (unAns (some [])) ∧ Below w.heap.size w w' := by
  have hcv : (convert 55 9 (.slice none 0 0)).run Try.prog w = .ok (.string (strL [])) w := own_str (o := []) (B := 0) (fun x hx => (by cases hx)) ⟨rfl, Or.inl ⟨rfl, rfl⟩⟩
  go_enter Try.func17, Try.ntmps17
  go_wp2_with fail
  go_loopw [4, 12] (fun v x wr => v = .slice none 0 0 ∧ x = .int .i64 0 ∧ wr = w) (fun _ _ _ => 0)
  case atStart => exact ⟨rfl, rfl, rfl⟩
  case round =>
    obtain ⟨rfl, rfl, rfl⟩ := hrel
    go_wp2_with fail
    go_ret2
    exact ⟨rfl, Below.refl _ _⟩
/-- the code's, at whatever slice of tokens -/
def TkArg (w : World) (v : Value) (n : Nat) (F : Nat → TkI) : Prop := ∃ a c, v = .slice a n c ∧ (0 < n → ∃ g, a = some ⟨g, 0, none⟩ ∧ TkRow w g n F)
theorem TkArg.below {w w' : World} {v : Value} {n : Nat} {F : Nat → TkI} (h : TkArg w v n F) (hb : Below w.heap.size w w') : TkArg w' v n F := by
  obtain ⟨a, c, h1, h2⟩ := h
  exact ⟨a, c, h1, fun h0 => by obtain ⟨g, h3, h4⟩ := h2 h0; exact ⟨g, h3, h4.below hb h4.lt⟩⟩
noncomputable def unOf (F : Nat → TkI) (n : Nat) : Option (List Nat) := if n ≤ 4000 then unPre F n else none
theorem un_any (v : Value) (n : Nat) (F : Nat → TkI) (w : World) (h : TkArg w v n F) :
    Calls Try.prog 17 #[v] w fun e w' => e = .returned (unAns (unOf F n)) ∧ Below w.heap.size w w' := by
  obtain ⟨a, c, rfl, hr⟩ := h
  unfold unOf
  by_cases hn : n ≤ 4000
  · rw [if_pos hn]
    by_cases h0 : 0 < n
    · obtain ⟨g, rfl, hrow⟩ := hr h0
      exact un_some g c n F w hn hrow
    · obtain rfl : n = 0 := by omega
      exact un_zero a c w
  · rw [if_neg hn]
    exact un_long a c n w (by omega)
end Go.Proofs.Ytmckchklebohman
