/-
  The comparer of Grouped, and the sort of members by it.
-/
import Derived.Test.YtfegoldjejlcaaaDoorGrM
import Derived.Test.YtfegoldjejlcaaaDoorExtD
import Derived.Test.YtfegoldjejlcaaaDoorSrtK
import Derived.Test.YtfegoldjejlcaaaDoorShelfS
import Derived.Test.YtfegoldjejlcaaaDoorShelfP
import Derived.Test.YtfegoldjejlcaaaDoorHeld
import Derived.Shelf.SlSortCmp.NoneTotal
namespace Go.Proofs.YtfegoldjejlcaaaDoor
open Go.RowKit
open Go.Sort (HoldsK SWO)
set_option linter.unusedVariables false
set_option linter.unusedSimpArgs false
theorem hidT {p : Prop} (h : p) : Hid p := h
def orI (a b : Int) : Int := if a = 0 then b else a
set_option maxRecDepth 100000 in
set_option maxHeartbeats 1000000 in
theorem or_any (g : Nat) (a b : Int) (w : World) (h0 : w.cell? ⟨g, 0, none⟩ = some (.int .i64 a)) (h1 : w.cell? ⟨g, 1, none⟩ = some (.int .i64 b)) :
    Calls Tryd.prog 65 #[.slice (some ⟨g, 0, none⟩) 2 2] w fun e w' => e = .returned (.int .i64 (orI a b)) ∧ w' = w := by
  by_cases ha : a = 0
  · subst ha
    have hz : orI 0 b = b := rfl
    rw [hz]
    by_cases hb : b = 0
    · subst hb
      go_enter Tryd.func65, Tryd.ntmps65
      go_wp2_with fail
      refine wp_loop_rounds 3 ?_
      rw [rounds_succ]
      go_wp2_with fail
      rw [rounds_succ]
      go_wp2_with fail
      rw [rounds_succ]
      go_wp2_with fail
      go_ret
      exact ⟨rfl, rfl⟩
    · have hb2 : (b != 0) = true := by simpa using hb
      go_enter Tryd.func65, Tryd.ntmps65
      go_wp2_with fail
      refine wp_loop_rounds 3 ?_
      rw [rounds_succ]
      go_wp2_with fail
      rw [rounds_succ]
      go_wp2_with fail
      go_ret
      exact ⟨rfl, rfl⟩
  · have hz : orI a b = a := by unfold orI; rw [if_neg ha]
    rw [hz]
    have ha2 : (a != 0) = true := by simpa using ha
    go_enter Tryd.func65, Tryd.ntmps65
    go_wp2_with fail
    refine wp_loop_rounds 3 ?_
    rw [rounds_succ]
    go_wp2_with fail
    go_ret
    exact ⟨rfl, rfl⟩
abbrev MbS : Type := {p : MbI // p.a.size ≤ 1048576}
instance : Inhabited MbS := ⟨⟨⟨⟨#[]⟩, ⟨#[]⟩⟩, by show 0 ≤ _; omega⟩⟩
def mbE (p : MbS) : List Value := [.string p.1.a, .string p.1.d]
theorem mbE_len (p : MbS) : (mbE p).length = 2 := rfl
theorem mbE_one (p : MbS) : ∀ v ∈ mbE p, v.oneCell' = true := by
  intro v hv
  unfold mbE at hv
  simp only [List.mem_cons, List.not_mem_nil, or_false] at hv
  rcases hv with rfl | rfl <;> rfl
def cmT (a b : ByteArray) : Int := Lib.compareBytes a.data.toList b.data.toList
def cfM (p q : MbS) : Int := orI (cmT (extB p.1.a) (extB q.1.a)) (cmT p.1.a q.1.a)
theorem cfM_lt (p q : MbS) : cfM p q < 0 ↔ gN p.1.a q.1.a := by
  unfold cfM orI cmT gN sL
  have h1 := cmpB_lt (extB p.1.a).data.toList (extB q.1.a).data.toList
  have h2 := cmpB_lt p.1.a.data.toList q.1.a.data.toList
  rw [← Lib.toList_data, ← Lib.toList_data] at h1
  rw [← Lib.toList_data, ← Lib.toList_data] at h2
  rw [← Lib.toList_data, ← Lib.toList_data, ← Lib.toList_data, ← Lib.toList_data]
  by_cases he : (extB p.1.a).toList = (extB q.1.a).toList
  · rw [if_pos (h1.2.2 he), h2.1]
    have e := gba_list he
    constructor
    · exact fun h => Or.inr ⟨e, h⟩
    · rintro (h | ⟨_, h⟩)
      · rw [he, gblt_irr] at h; cases h
      · exact h
  · rw [if_neg fun h => he (h1.2.1 h), h1.1]
    constructor
    · exact fun h => Or.inl h
    · rintro (h | ⟨h, _⟩)
      · exact h
      · exact absurd (by rw [h]) he
theorem ltM (p q : MbS) : (ltOf cfM p q = true ↔ gN p.1.a q.1.a) := by
  unfold ltOf
  rw [decide_eq_true_eq]
  exact cfM_lt p q
theorem ltM_no {p q : MbS} (h : ltOf cfM p q = false) : ¬ gN p.1.a q.1.a := fun k => by
  rw [(ltM p q).2 k] at h; cases h
theorem no_ltM {p q : MbS} (h : ¬ gN p.1.a q.1.a) : ltOf cfM p q = false := by
  cases hb : ltOf cfM p q with
  | false => rfl
  | true => exact absurd ((ltM p q).1 hb) h
theorem swoM : SWO (ltOf cfM) where
  irrefl x := no_ltM (gN_irr _)
  trans x y z h k := (ltM x z).2 (gN_trans ((ltM x y).1 h) ((ltM y z).1 k))
  ntrans x y z h k := no_ltM fun c => by
    rcases gN_tri x.1.a y.1.a with a | a | a
    · exact ltM_no h a
    · rw [a] at c; exact ltM_no k c
    · exact ltM_no k (gN_trans a c)
set_option maxRecDepth 100000 in
set_option maxHeartbeats 4000000 in
theorem cmpM_any (p q : MbS) (w : World) (hm : MxL w) :
    Calls Tryd.prog 64 #[.agg #[.string p.1.a, .string p.1.d], .agg #[.string q.1.a, .string q.1.d]] w fun e w' => e = .returned (.int .i64 (cfM p q)) ∧ GrD w w' := by
  have HMX : Hid (∀ w', Below w.heap.size w w' → MxL w') := fun w' h => hm.on h
  have HEX : Hid (∀ (s : ByteArray) w, s.size ≤ 1048576 → MxL w → Calls Tryd.prog 26 #[.string s] w fun e w' => e = .returned (.string (extB s)) ∧ GrD w w') := fun s w h1 h2 => extD_any s w h1 h2
  have HCM : Hid (∀ (a b : ByteArray) w, Calls Tryd.prog 48 #[.string a, .string b] w fun e w' => e = .returned (.int .i64 (cmT a b)) ∧ w' = w) := fun a b w => Tryd.strings_Compare a b w
  have HOR : Hid (∀ (g : Nat) (a b : Int) (w : World), w.cell? ⟨g, 0, none⟩ = some (.int .i64 a) → w.cell? ⟨g, 1, none⟩ = some (.int .i64 b) → Calls Tryd.prog 65 #[.slice (some ⟨g, 0, none⟩) 2 2] w fun e w' => e = .returned (.int .i64 (orI a b)) ∧ w' = w) := or_any
  have HV : Hid (cfM p q = orI (cmT (extB p.1.a) (extB q.1.a)) (cmT p.1.a q.1.a)) := rfl
  have HPS := hidT p.2
  have HQS := hidT q.2
  generalize cfM p q = R at HV ⊢
  obtain ⟨⟨pa, pd⟩, hps⟩ := p
  obtain ⟨⟨qa, qd⟩, hqs⟩ := q
  simp only at HV HPS HQS ⊢
  obtain ⟨nb, hnb⟩ : ∃ nb, nb = w.heap.size := ⟨_, rfl⟩
  obtain ⟨W1, hW1⟩ : ∃ W1, W1 = (w.alloc (.cells #[.string pa, .string pd] 46)).alloc (.cells #[.string qa, .string qd] 46) := ⟨_, rfl⟩
  have HG1 : Hid (GrD w W1) := by rw [hW1]; exact ((GrD.refl w).alloc _).alloc _
  have HC1 : Hid (W1.heap[nb]? = some (.cells #[.string pa, .string pd] 46 (0, 0)) ∧ W1.heap[nb + 1]? = some (.cells #[.string qa, .string qd] 46 (0, 0)) ∧ nb + 1 < W1.heap.size ∧ w.heap.size = nb) := by
    rw [hW1, hnb]
    refine ⟨?_, ?_, by simp, rfl⟩
    · rw [Below.heap_alloc _ _ _ (by simp)]
      exact heap_alloc_new w _
    · have h := heap_alloc_new (w.alloc (.cells #[.string pa, .string pd] 46)) (.cells #[.string qa, .string qd] 46)
      simpa using h
  have HW1 := hidT hW1
  have HNB := hidT hnb
  obtain ⟨S, hSS⟩ : ∃ S : World → Prop, S = fun w' => w'.heap[nb]? = some (.cells #[.string pa, .string pd] 46 (0, 0)) ∧ w'.heap[nb + 1]? = some (.cells #[.string qa, .string qd] 46 (0, 0)) := ⟨_, rfl⟩
  have HSS := hidT hSS
  have HX : Hid (∀ w', S w' → w'.cell? ⟨nb, 0, none⟩ = some (.string pa) ∧ w'.cell? ⟨nb + 1, 0, none⟩ = some (.string qa)) := fun w' h => by
    rw [hSS] at h
    exact ⟨cell_of_row _ _ 0 _ _ _ h.1, cell_of_row _ _ 0 _ _ _ h.2⟩
  have HSG : Hid (∀ a b : World, S a → GrD a b → S b) := fun a b h k => by
    rw [hSS] at h ⊢
    exact ⟨(k.below.block _ (Array.getElem?_eq_some_iff.1 h.1).1).trans h.1, (k.below.block _ (Array.getElem?_eq_some_iff.1 h.2).1).trans h.2⟩
  have hS1 : S W1 := by rw [hSS]; exact ⟨HC1.out.1, HC1.out.2.1⟩
  have HS1 := hidT hS1
  clear hm hps hqs hW1 hnb hSS hS1
  go_enter Tryd.func64, Tryd.ntmps64
  go_wp2_with fail
  try simp only [World.size_alloc]
  try rw [← HNB.out]
  try rw [← HNB.out, ← HW1.out]
  try rw [← HW1.out]
  clear HW1
  generalize hX1 : W1 = X1 at HG1 HC1 HS1 ⊢
  have hSd : S X1.drew := HSG.out _ _ HS1.out ((GrD.refl _).drew)
  have HGd := hidT (HG1.out.drew)
  clear hX1 HG1 HC1 HS1
  refine wp_region_held (S := S) (by kernel_rfl) ?_
  change wpAnyH _ _ _ _ _ _ _ _ (World.drew _)
  generalize X1.drew = X2 at hSd HGd ⊢
  refine wpAnyH_take (i := 0) (v := .pointer (some ⟨nb, 0, none⟩)) rfl (by kernel_rfl) (by kernel_rfl) (by kernel_rfl) (fun _ _ _ h => h) (Or.inl ⟨by rfl, by intro w' hS'; go_simp <;> (first | omega | (rw [IntKind.wrap_i64]; omega) | (rw [IntKind.wrap_u64]; omega) | rfl)⟩) hSd ?_
  (try simp only [List.getElem_toArray, List.getElem_cons_succ, List.getElem_cons_zero, Act.put, List.setIfInBounds_toArray, List.set_cons_zero, List.set_cons_succ])
  refine wpAnyH_take (i := 1) (v := .string pa) rfl (by kernel_rfl) (by kernel_rfl) (by kernel_rfl) (fun _ _ _ h => h) (Or.inl ⟨by rfl, by intro w' hS'; have hxx := (HX.out w' hS').1; go_simp <;> (first | omega | (rw [IntKind.wrap_i64]; omega) | (rw [IntKind.wrap_u64]; omega) | rfl)⟩) hSd ?_
  (try simp only [List.getElem_toArray, List.getElem_cons_succ, List.getElem_cons_zero, Act.put, List.setIfInBounds_toArray, List.set_cons_zero, List.set_cons_succ])
  refine wpAnyH_take (i := 3) (v := .pointer (some ⟨nb + 1, 0, none⟩)) rfl (by kernel_rfl) (by kernel_rfl) (by kernel_rfl) (fun _ _ _ h => h) (Or.inl ⟨by rfl, by intro w' hS'; go_simp <;> (first | omega | (rw [IntKind.wrap_i64]; omega) | (rw [IntKind.wrap_u64]; omega) | rfl)⟩) hSd ?_
  (try simp only [List.getElem_toArray, List.getElem_cons_succ, List.getElem_cons_zero, Act.put, List.setIfInBounds_toArray, List.set_cons_zero, List.set_cons_succ])
  refine wpAnyH_take (i := 4) (v := .string qa) rfl (by kernel_rfl) (by kernel_rfl) (by kernel_rfl) (fun _ _ _ h => h) (Or.inl ⟨by rfl, by intro w' hS'; have hxx := (HX.out w' hS').2; go_simp <;> (first | omega | (rw [IntKind.wrap_i64]; omega) | (rw [IntKind.wrap_u64]; omega) | rfl)⟩) hSd ?_
  (try simp only [List.getElem_toArray, List.getElem_cons_succ, List.getElem_cons_zero, Act.put, List.setIfInBounds_toArray, List.set_cons_zero, List.set_cons_succ])
  refine wpAnyH_take (i := 7) (v := .pointer (some ⟨nb, 0, none⟩)) rfl (by kernel_rfl) (by kernel_rfl) (by kernel_rfl) (fun _ _ _ h => h) (Or.inl ⟨by rfl, by intro w' hS'; go_simp <;> (first | omega | (rw [IntKind.wrap_i64]; omega) | (rw [IntKind.wrap_u64]; omega) | rfl)⟩) hSd ?_
  (try simp only [List.getElem_toArray, List.getElem_cons_succ, List.getElem_cons_zero, Act.put, List.setIfInBounds_toArray, List.set_cons_zero, List.set_cons_succ])
  refine wpAnyH_take (i := 8) (v := .string pa) rfl (by kernel_rfl) (by kernel_rfl) (by kernel_rfl) (fun _ _ _ h => h) (Or.inl ⟨by rfl, by intro w' hS'; have hxx := (HX.out w' hS').1; go_simp <;> (first | omega | (rw [IntKind.wrap_i64]; omega) | (rw [IntKind.wrap_u64]; omega) | rfl)⟩) hSd ?_
  (try simp only [List.getElem_toArray, List.getElem_cons_succ, List.getElem_cons_zero, Act.put, List.setIfInBounds_toArray, List.set_cons_zero, List.set_cons_succ])
  refine wpAnyH_take (i := 9) (v := .pointer (some ⟨nb + 1, 0, none⟩)) rfl (by kernel_rfl) (by kernel_rfl) (by kernel_rfl) (fun _ _ _ h => h) (Or.inl ⟨by rfl, by intro w' hS'; go_simp <;> (first | omega | (rw [IntKind.wrap_i64]; omega) | (rw [IntKind.wrap_u64]; omega) | rfl)⟩) hSd ?_
  (try simp only [List.getElem_toArray, List.getElem_cons_succ, List.getElem_cons_zero, Act.put, List.setIfInBounds_toArray, List.set_cons_zero, List.set_cons_succ])
  refine wpAnyH_take (i := 10) (v := .string qa) rfl (by kernel_rfl) (by kernel_rfl) (by kernel_rfl) (fun _ _ _ h => h) (Or.inl ⟨by rfl, by intro w' hS'; have hxx := (HX.out w' hS').2; go_simp <;> (first | omega | (rw [IntKind.wrap_i64]; omega) | (rw [IntKind.wrap_u64]; omega) | rfl)⟩) hSd ?_
  (try simp only [List.getElem_toArray, List.getElem_cons_succ, List.getElem_cons_zero, Act.put, List.setIfInBounds_toArray, List.set_cons_zero, List.set_cons_succ])
  refine held_stepS (i := 2) (by kernel_rfl) rfl (by rfl) ?_
  go_simp
  refine (HEX.out pa _ HPS.out (HMX.out _ HGd.out.below)).mono ?_
  rintro e w3 ⟨rfl, hg3⟩
  have hS3 := HSG.out _ _ hSd hg3
  have HG3 := hidT (HGd.out.trans hg3)
  clear hg3 hSd HGd
  refine ⟨hS3, ?_⟩
  (try simp only [List.getElem_toArray, List.getElem_cons_succ, List.getElem_cons_zero, Act.put, List.setIfInBounds_toArray, List.set_cons_zero, List.set_cons_succ])
  refine held_stepS (i := 5) (by kernel_rfl) rfl (by rfl) ?_
  go_simp
  refine (HEX.out qa _ HQS.out (HMX.out _ HG3.out.below)).mono ?_
  rintro e w4 ⟨rfl, hg4⟩
  have hS4 := HSG.out _ _ hS3 hg4
  have HG4 := hidT (HG3.out.trans hg4)
  clear hg4 hS3 HG3
  refine ⟨hS4, ?_⟩
  (try simp only [List.getElem_toArray, List.getElem_cons_succ, List.getElem_cons_zero, Act.put, List.setIfInBounds_toArray, List.set_cons_zero, List.set_cons_succ])
  refine held_stepS (i := 6) (by kernel_rfl) rfl (by rfl) ?_
  go_simp
  refine (HCM.out _ _ _).mono ?_
  rintro e w5 ⟨rfl, hw5⟩
  subst w5
  refine ⟨hS4, ?_⟩
  (try simp only [List.getElem_toArray, List.getElem_cons_succ, List.getElem_cons_zero, Act.put, List.setIfInBounds_toArray, List.set_cons_zero, List.set_cons_succ])
  refine held_stepS (i := 11) (by kernel_rfl) rfl (by rfl) ?_
  go_simp
  refine (HCM.out _ _ _).mono ?_
  rintro e w5 ⟨rfl, hw5⟩
  subst w5
  refine ⟨hS4, ?_⟩
  (try simp only [List.getElem_toArray, List.getElem_cons_succ, List.getElem_cons_zero, Act.put, List.setIfInBounds_toArray, List.set_cons_zero, List.set_cons_succ])
  obtain ⟨cE, hcE⟩ : ∃ c, c = cmT (extB pa) (extB qa) := ⟨_, rfl⟩
  obtain ⟨cN, hcN⟩ : ∃ c, c = cmT pa qa := ⟨_, rfl⟩
  rw [← hcE, ← hcN]
  rw [← hcE, ← hcN] at HV
  have hg5 : GrD w4 (w4.alloc (.cells #[.int .i64 cE, .int .i64 cN] 3)) := (GrD.refl _).alloc _
  have hS5 := HSG.out _ _ hS4 hg5
  have HG5 := hidT (HG4.out.trans hg5)
  have HR5 : Hid ((w4.alloc (.cells #[.int .i64 cE, .int .i64 cN] 3)).heap[w4.heap.size]? = some (.cells #[.int .i64 cE, .int .i64 cN] 3 (0, 0))) := heap_alloc_new w4 _
  clear hg5 hcE hcN
  refine held_stepS (i := 12) (by kernel_rfl) rfl (by rfl) ?_
  go_simp
  refine ⟨hS5, ?_⟩
  (try simp only [List.getElem_toArray, List.getElem_cons_succ, List.getElem_cons_zero, Act.put, List.setIfInBounds_toArray, List.set_cons_zero, List.set_cons_succ])
  generalize w4.alloc (.cells #[.int .i64 cE, .int .i64 cN] 3) = w5 at hS5 HG5 HR5 ⊢
  generalize w4.heap.size = nr at HR5 ⊢
  refine held_stepS (i := 13) (by kernel_rfl) rfl (by rfl) ?_
  go_simp
  refine (HOR.out nr cE cN _ (cell_of_row _ _ 0 _ _ _ HR5.out) (cell_of_row _ _ 1 _ _ _ HR5.out)).mono ?_
  rintro e w6 ⟨rfl, hw6⟩
  subst w6
  refine ⟨hS5, ?_⟩
  (try simp only [List.getElem_toArray, List.getElem_cons_succ, List.getElem_cons_zero, Act.put, List.setIfInBounds_toArray, List.set_cons_zero, List.set_cons_succ])
  rw [← HV.out]
  refine wpAnyH_take (i := 14) (v := .int .i64 R) rfl (by kernel_rfl) (by kernel_rfl) (by kernel_rfl) (fun _ _ _ h => h) (Or.inl ⟨by rfl, by intro w' hS'; go_simp <;> (first | omega | (rw [IntKind.wrap_i64]; omega) | (rw [IntKind.wrap_u64]; omega) | rfl)⟩) hS5 ?_
  (try simp only [List.getElem_toArray, List.getElem_cons_succ, List.getElem_cons_zero, Act.put, List.setIfInBounds_toArray, List.set_cons_zero, List.set_cons_succ])
  refine wpAnyH_done (by kernel_rfl) ?_ _
  clear hS4 hS5 HX HSG HSS
  go_wp2_with fail
  go_ret
  exact ⟨rfl, HG5.out⟩
theorem liftM (L : List MbI) (h : ∀ p ∈ L, p.a.size ≤ 1048576) : ∃ M : List MbS, M.map (·.1) = L ∧ M.flatMap mbE = mbC L := by
  induction L with
  | nil => exact ⟨[], rfl, rfl⟩
  | cons p L ih =>
    obtain ⟨M, h1, h2⟩ := ih fun q hq => h q (List.mem_cons_of_mem _ hq)
    refine ⟨⟨p, h p (List.mem_cons_self ..)⟩ :: M, by show p :: M.map _ = _; rw [h1], ?_⟩
    show mbE _ ++ M.flatMap mbE = _
    rw [h2]
    rfl
theorem flatM (M : List MbS) : M.flatMap mbE = mbC (M.map (·.1)) := by
  induction M with
  | nil => rfl
  | cons p M ih =>
    show mbE p ++ M.flatMap mbE = _
    rw [ih]
    rfl
set_option maxRecDepth 100000 in
theorem sortM_any (v : Value) (L : List MbI) (B : Nat) (w : World) (hL : L.length ≤ 60) (hs : ∀ p ∈ L, p.a.size ≤ 1048576) (hm : MxL w) (h0 : 0 < L.length) (hB : 0 < B) (h : w.ownsRow B 46 2 v L.length (mbC L)) :
    Calls Tryd.prog 63 #[v, .func (.func 64) #[] #[]] w fun e w' => e = .returned (.tuple #[]) ∧ (∃ L', L'.Perm L ∧ L'.Pairwise (fun a b => ¬ gN b.a a.a) ∧ w'.ownsRow B 46 2 v L.length (mbC L')) ∧ (∀ B0 w0, B0 ≤ B → Below B0 w0 w → Below B0 w0 w') := by
  obtain ⟨M, hM1, hM2⟩ := liftM L hs
  have hlen : M.length = L.length := by rw [← hM1, List.length_map]
  rcases h.2 with ⟨rfl, e0⟩ | ⟨g, cap, cur, rfl, hbase, hb, h1, h2, h3, h4⟩
  · omega
  · have hg := (Array.getElem?_eq_some_iff.1 hb).1
    have hh : HoldsK mbE 2 w g 0 M.toArray := holdsK_of mbE_len (by decide) hb (by
      have : M.toArray.size = L.length := by simpa using hlen
      rw [this, h4]
      exact hM2.symm)
    have eg : ∀ args w, (callFunc 64 args).run Tryd.prog w = .ok (.enter 64 args) w := enters_of Tryd.func64 (by kernel_rfl) rfl
    have hcmp : CmpLays Tryd.prog 64 #[] mbE 2 cfM g 0 M.toArray.size w := fun m os dk hdk x y => by
      have hbel : Below B w (sortWorldK mbE 2 w g 0 m dk os) := (Below.refl B w).grown (sorted_grown _) (by omega) (fun k hk => by have := Option.some.inj hk; omega)
      exact (cmpM_any x y _ (hm.below hbel hB)).mono fun e w' ⟨he, hd⟩ => ⟨he, hd.grow⟩
    have hsz : M.toArray.size = L.length := by simpa using hlen
    have hc := AnyQ.slices_SortFunc Tryd.sortMb 2 Tryd.isAgg46 Tryd.sizeOf46 mbE mbE_len mbE_one cfM swoM 64 #[] g 0 cap M.toArray w eg hcmp hh hg (by omega)
    rw [hsz] at hc
    change Calls Tryd.prog 63 _ _ _ at hc
    refine hc.mono ?_
    rintro e w' ⟨rfl, d', n, os, hp, hso, rfl⟩
    have hds : d'.size = L.length := by have := hp.1; omega
    have hpl : d'.toList.Perm M := by have := perm_list (d := M.toArray) (by rw [hsz]; exact hp); simpa using this
    refine ⟨rfl, ⟨d'.toList.map (·.1), ?_, ?_, ?_⟩, fun B0 w0 hB0 hbl => ?_⟩
    · have := hpl.map (·.1)
      rw [hM1] at this
      exact this
    · rw [List.pairwise_map]
      exact (sorted_pair hso hds).imp fun {a b} h => ltM_no h
    · rw [← flatM]
      exact sorted_own mbE_len (by decide) d' hds hbase hb (by omega) h2 h3
    · exact hbl.grown (sorted_grown _) (Nat.le_of_lt (Nat.lt_of_le_of_lt (Nat.le_trans hB0 hbase) hg)) (fun k hk => by have := Option.some.inj hk; omega)
end Go.Proofs.YtfegoldjejlcaaaDoor
