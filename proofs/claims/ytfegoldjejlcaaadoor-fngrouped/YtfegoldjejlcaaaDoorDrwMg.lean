/-
  Members that are drawn, to be grouped.
-/
import Derived.Test.YtfegoldjejlcaaaDoorMbL
import Derived.Test.YtfegoldjejlcaaaDoorMbM
import Derived.Test.YtfegoldjejlcaaaDoorHeld
import Derived.Test.YtfegoldjejlcaaaDoorData
import Derived.Test.YtfegoldjejlcaaaDoorAppF
import Derived.Test.YtfegoldjejlcaaaDoorDrw
namespace Go.Proofs.YtfegoldjejlcaaaDoor
open Go.RowKit
set_option linter.unusedVariables false
set_option linter.unusedSimpArgs false
theorem Rd3.drewL {w0 : World} {a : Option Addr} {len cap g : Nat} {W w1 : World} (h : Rd3 w0 a len cap g W.drew w1) : Rd3 w0 a len cap g W w1 :=
  ⟨h.rd, ⟨h.grown.os, h.grown.tape, h.grown.output, h.grown.size, h.grown.block⟩⟩
def nbT : ByteArray := ⟨#[110, 111, 98, 111, 100, 121]⟩
/-- a drawn list of members, and the reader -/
structure DM (w0 : World) (a : Option Addr) (len cap g : Nat) (W : World) (v : Value) (L : List MbI) : Prop where
  rd : RD w0 a len cap g W
  own : W.ownsRow w0.heap.size 46 2 v L.length (mbC L)
  sz : ∀ p ∈ L, p.a.size ≤ 100 ∧ p.d.size ≤ 600
  nob : ∀ p ∈ L, p.a ≠ nbT
theorem DM.apart {w0 : World} {a : Option Addr} {len cap g : Nat} {W : World} {v : Value} {L : List MbI} (h : DM w0 a len cap g W v L) : v.ownBlock ≠ some g := by
  obtain ⟨_, _, p, _, hh⟩ := h.rd
  obtain ⟨hl, ⟨h0, hn⟩ | ⟨k, c, cur, h1, h2, h3, _⟩⟩ := h.own
  · subst h0; intro c; cases c
  · subst h1
    intro c
    have c : some k = some g := c
    injection c with c
    subst c
    rw [h3] at hh
    injection hh with hh
    injection hh with _ hh _
    exact absurd hh (by decide)
theorem own2_keep {w w' : World} {B n : Nat} {e : TypeId} {v : Value} {xs : List Value} (h : w.ownsRow B e 2 v n xs) (hb : ∀ k, v.ownBlock = some k → w'.heap[k]? = w.heap[k]?) : w'.ownsRow B e 2 v n xs := by
  obtain ⟨h0, h1 | ⟨g, cap, cur, h1, h2, h3, h4, h5, h6, h7⟩⟩ := h
  · exact ⟨h0, Or.inl h1⟩
  · exact ⟨h0, Or.inr ⟨g, cap, cur, h1, h2, (hb g (by rw [h1]; rfl)).trans h3, h4, h5, h6, h7⟩⟩
theorem DM.rd3 {w0 : World} {a : Option Addr} {len cap g : Nat} {W W' : World} {v : Value} {L : List MbI} (h : DM w0 a len cap g W v L) (hr : Rd3 w0 a len cap g W W') : DM w0 a len cap g W' v L :=
  ⟨hr.rd, own2_keep h.own fun k hk => hr.grown.block k (h.own.lt k hk).2 (fun c => h.apart (hk.trans c)), h.sz, h.nob⟩
theorem DM.alloc {w0 : World} {a : Option Addr} {len cap g : Nat} {W : World} {v : Value} {L : List MbI} (h : DM w0 a len cap g W v L) (o : Obj) : DM w0 a len cap g (W.alloc o) v L := ⟨h.rd.alloc o, h.own.alloc o, h.sz, h.nob⟩
theorem RD.grownM {w0 : World} {a : Option Addr} {len cap g : Nat} {W W' : World} {row : Option Nat} (h : RD w0 a len cap g W) (hg : W.grownBy W' row) (hne : row ≠ some g) (hr : ∀ k, row = some k → w0.heap.size ≤ k) : RD w0 a len cap g W' := by
  have hl := h.lt
  obtain ⟨h1, h2, p, hp, hh⟩ := h
  exact ⟨h1.grown hg h1.size hr, h2, p, hp, by rw [hg.block g hl (fun c => hne c.symm)]; exact hh⟩
theorem DM.grown {w0 : World} {a : Option Addr} {len cap g : Nat} {W W' : World} {v v' : Value} {L : List MbI} {p : MbI} (h : DM w0 a len cap g W v L) (hp : p.a.size ≤ 100 ∧ p.d.size ≤ 600) (hn : p.a ≠ nbT) (hg : W.grownBy W' v.ownBlock) (ho : W'.ownsRow w0.heap.size 46 2 v' (L ++ [p]).length (mbC (L ++ [p]))) : DM w0 a len cap g W' v' (L ++ [p]) :=
  ⟨h.rd.grownM hg h.apart (fun k hk => (h.own.lt k hk).1), ho, fun x hx => by
    rcases List.mem_append.1 hx with h1 | h1
    · exact h.sz x h1
    · obtain rfl : x = p := by simpa using h1
      exact hp, fun x hx => by
    rcases List.mem_append.1 hx with h1 | h1
    · exact h.nob x h1
    · obtain rfl : x = p := by simpa using h1
      exact hn⟩
def nmVals : Array Value := #[.string ⟨#[98, 46, 103, 111]⟩, .string ⟨#[97, 46, 103, 111]⟩, .string ⟨#[120]⟩, .string ⟨#[99, 47, 100, 46, 116, 120, 116]⟩, .string ⟨#[97, 46, 116, 120, 116]⟩, .string ⟨#[107, 46, 116, 97, 114, 46, 103, 122]⟩, .string ⟨#[63]⟩]
theorem nmVals_at : ∀ k : Nat, k < 7 → ∃ s : ByteArray, s.size ≤ 100 ∧ s ≠ nbT ∧ nmVals[k]? = some (.string s)
  | 0, _ => ⟨_, by decide, by decide, rfl⟩
  | 1, _ => ⟨_, by decide, by decide, rfl⟩
  | 2, _ => ⟨_, by decide, by decide, rfl⟩
  | 3, _ => ⟨_, by decide, by decide, rfl⟩
  | 4, _ => ⟨_, by decide, by decide, rfl⟩
  | 5, _ => ⟨_, by decide, by decide, rfl⟩
  | 6, _ => ⟨_, by decide, by decide, rfl⟩
def xnVals : Array Value := #[.string ⟨#[97, 46, 103, 111]⟩, .string ⟨#[]⟩, .string ⟨#[113]⟩]
theorem xnVals_at : ∀ k : Nat, k < 3 → ∃ s : ByteArray, s.size ≤ 100 ∧ s ≠ nbT ∧ xnVals[k]? = some (.string s)
  | 0, _ => ⟨_, by decide, by decide, rfl⟩
  | 1, _ => ⟨_, by decide, by decide, rfl⟩
  | 2, _ => ⟨_, by decide, by decide, rfl⟩
theorem wp_append_run {P : Program} {o : Oper} {a : Act} {w w' : World} {K : Act → World → Prop} {Q : Exit → Act → World → Prop} (s x : Operand) (t : TypeId)
    (ho : o.op = .call { callee := .builtin .append, args := #[s, x], argTypes := #[t, t] }) (v u r : Value) (hs : a.eval s = v) (hx : a.eval x = u)
    (hr : (Builtin.append_ #[t, t] o.type #[v, u]).run P w = .ok r w') (h : K (a.put o.dst r) w') : Oper.wp P o a w K Q := by
  unfold Oper.wp execOp
  simp only [ho, resolve, invoke, builtin, Sem.run_bind, Sem.run_pure, Result.andThen_ok, List.map_toArray, List.map_cons, List.map_nil, hs, hx, hr]
  exact h
theorem row_ltD {w : World} {g : Nat} {X : Obj} (h : w.heap[g]? = some X) : g < w.heap.size := (Array.getElem?_eq_some_iff.1 h).1
theorem hidD {p : Prop} (h : p) : Hid p := h
/-- what a round of the drawing holds -/
structure TD (w0 : World) (a : Option Addr) (len cap g C : Nat) (W : World) (gv cp : Nat) (L : List MbI) : Prop where
  dn : DM w0 a len cap g W (.slice (some ⟨gv, 0, none⟩) L.length cp) L
  row : W.heap[C]? = some (.cells nmVals 9 (0, 0))
  nev : gv ≠ C
  neg : C ≠ g
theorem TD.rd3 {w0 : World} {a : Option Addr} {len cap g C : Nat} {W W' : World} {gv cp : Nat} {L : List MbI} (h : TD w0 a len cap g C W gv cp L) (hr : Rd3 w0 a len cap g W W') : TD w0 a len cap g C W' gv cp L :=
  ⟨h.dn.rd3 hr, (hr.grown.block C (row_ltD h.row) (fun e => h.neg (Option.some.inj e))).trans h.row, h.nev, h.neg⟩
theorem TD.alloc {w0 : World} {a : Option Addr} {len cap g C : Nat} {W : World} {gv cp : Nat} {L : List MbI} (h : TD w0 a len cap g C W gv cp L) (o : Obj) : TD w0 a len cap g C (W.alloc o) gv cp L :=
  ⟨h.dn.alloc o, (Below.heap_alloc W o C (row_ltD h.row)).trans h.row, h.nev, h.neg⟩
theorem TD.app {w0 : World} {a : Option Addr} {len cap g C : Nat} {W W' : World} {gv cp g' c' : Nat} {L : List MbI} {p : MbI} (h : TD w0 a len cap g C W gv cp L) (hp : p.a.size ≤ 100 ∧ p.d.size ≤ 600) (hnb : p.a ≠ nbT) (ho : W'.ownsRow w0.heap.size 46 2 (.slice (some ⟨g', 0, none⟩) (L.length + 1) c') (L.length + 1) (mbC L ++ [.string p.a, .string p.d])) (hg : W.grownBy W' (some gv)) (hf : g' = gv ∨ W.heap.size ≤ g') : TD w0 a len cap g C W' g' c' (L ++ [p]) := by
  have ho2 := ho
  rw [mbC_snoc] at ho2
  have e : (L ++ [p]).length = L.length + 1 := by simp
  refine ⟨h.dn.grown hp hnb hg (by rw [e]; exact ho2) |> fun x => by rw [e]; exact x, (hg.block C (row_ltD h.row) (fun c => h.nev (Option.some.inj c).symm)).trans h.row, ?_, h.neg⟩
  rcases hf with rfl | hf
  · exact h.nev
  · have := row_ltD h.row; omega
theorem mb_oneD (a d : ByteArray) : ∀ u ∈ [Value.string a, .string d], u.oneCell' = true := by
  intro u hu
  simp only [List.mem_cons, List.not_mem_nil, or_false] at hu
  rcases hu with rfl | rfl <;> rfl
set_option maxRecDepth 100000 in
set_option maxHeartbeats 4000000 in
theorem members_drawn {w0 : World} {a : Option Addr} {len cap g : Nat} {W : World} (hS : Src w0 a len) (h : RD w0 a len cap g W) :
    Calls Tryd.prog 61 #[.pointer (some ⟨g, 0, none⟩)] W fun e w' => ∃ (v : Value) (L : List MbI), L.length ≤ 8 ∧ e = .returned v ∧ DM w0 a len cap g w' v L := by
  obtain ⟨i0, hi, hz0, hz1, hz2⟩ := info_parts Tryd.infMb
  have hgl := h.lt
  obtain ⟨C, hC⟩ : ∃ C, C = W.heap.size + 1 := ⟨_, rfl⟩
  obtain ⟨W2, hW2⟩ : ∃ W2, W2 = (W.alloc (.cells #[] 46)).alloc (.cells nmVals 9) := ⟨_, rfl⟩
  have HT0 : Hid (TD w0 a len cap g C W2 W.heap.size 0 []) := by
    have hown0 := World.ownsRow_made (e := 46) (size := 2) W #[] 0 h.below.size (by unfold maxLen; omega) rfl
    have hd : DM w0 a len cap g (W.alloc (.cells #[] 46)) (.slice (some ⟨W.heap.size, 0, none⟩) 0 0) [] := ⟨h.alloc _, hown0, (fun p hp => by cases hp), fun p hp => by cases hp⟩
    rw [hW2, hC]
    exact ⟨hd.alloc _, by have h := heap_alloc_new (W.alloc (.cells #[] 46)) (.cells nmVals 9); simpa using h, by omega, by omega⟩
  have HW2 := hidD hW2
  have HS := hidD hS
  have HCC : Hid (C = W.heap.size + 1) := hC
  unfold nmVals at HW2
  clear hW2 h hS hC hgl
  go_enter Tryd.func61, Tryd.ntmps61
  go_wp2_with fail
  try rw [← HW2.out]
  try rw [← HCC.out]
  generalize W.heap.size = gv0 at HT0 ⊢
  go_loopw [3, 5] (fun v t wr => ∃ (i gv cp : Nat) (L : List MbI), i ≤ 7 ∧ L.length ≤ i ∧ v = .slice (some ⟨gv, 0, none⟩) L.length cp ∧ t = .int .i64 (i : Int) ∧ Hid (TD w0 a len cap g C wr gv cp L)) (fun _ t _ => 7 - (intMb t).toNat)
  case atStart => exact ⟨0, _, _, [], by omega, by simp, rfl, rfl, HT0⟩
  case round =>
    clear HT0 HW2 HCC
    obtain ⟨i, gv, cp, L, hi7, hLi, rfl, rfl, HT⟩ := hrel
    by_cases hlt : i < 7
    · have hltI : (i : Int) < 7 := by omega
      go_wp2_with fail
      refine (once_any HS.out HT.out.dn.rd 2 (by omega) (by omega)).mono ?_
      rintro e w2 ⟨⟨x, rfl⟩, hr2⟩
      have HT2 := hidD (HT.out.rd3 hr2)
      clear hr2 HT
      cases x with
      | false =>
        go_wp2_with fail
        go_roundw
        case rel => exact ⟨i + 1, _, _, _, by omega, by omega, rfl, by go_num, HT2⟩
        case measure => simp [intMb]; omega
      | true =>
        obtain ⟨s, hs, hsn, hat⟩ := nmVals_at i hlt
        obtain ⟨S, hSS⟩ : ∃ S : World → Prop, S = fun w' => w'.heap[C]? = some (.cells nmVals 9 (0, 0)) := ⟨_, rfl⟩
        have HX : Hid (∀ w', S w' → w'.cell? ⟨C, i, none⟩ = some (.string s)) := fun w' h => by
          rw [hSS] at h
          exact (cell_of_row w' C i _ _ _ h).trans hat
        have HSS : Hid (S = fun w' => w'.heap[C]? = some (.cells nmVals 9 (0, 0))) := hSS
        have hSd : S w2.drew := by rw [hSS]; exact HT2.out.row
        have HDA : Hid (Calls Tryd.prog 85 #[.pointer (some ⟨g, 0, none⟩), .int .i64 3] w2.drew fun e w' => (∃ s : ByteArray, s.size ≤ 600 ∧ e = .returned (.string s)) ∧ Rd3 w0 a len cap g w2 w') := (data_any HS.out HT2.out.dn.rd.drew 3 (by omega) (by omega)).mono (fun e w' h => ⟨h.1, h.2.drewL⟩)
        have HSZ := hidD hs
        have HSN := hidD hsn
        clear hSS hat hs hsn
        go_wp2_with fail
        refine wp_region_held (S := S) (by kernel_rfl) ?_
        change wpAnyH _ _ _ _ _ _ _ _ (World.drew _)
        refine wpAnyH_take (i := 0) (v := .slice (some ⟨gv, 0, none⟩) L.length cp) rfl (by kernel_rfl) (by kernel_rfl) (by kernel_rfl) (fun _ _ _ h => h) (Or.inl ⟨by rfl, by intro w' hS'; go_simp <;> (first | omega | (rw [IntKind.wrap_i64]; omega) | (rw [IntKind.wrap_u64]; omega) | (rw [IntKind.wrap_u32]; omega) | (rw [Int.tmod_eq_emod_of_nonneg (by omega)]) | rfl)⟩) hSd ?_
        (try simp only [List.getElem_toArray, List.getElem_cons_succ, List.getElem_cons_zero, Act.put, List.setIfInBounds_toArray, List.set_cons_zero, List.set_cons_succ])
        refine wpAnyH_take (i := 1) (v := .slice (some ⟨C, 0, none⟩) 7 7) rfl (by kernel_rfl) (by kernel_rfl) (by kernel_rfl) (fun _ _ _ h => h) (Or.inl ⟨by rfl, by intro w' hS'; go_simp <;> (first | omega | (rw [IntKind.wrap_i64]; omega) | (rw [IntKind.wrap_u64]; omega) | (rw [IntKind.wrap_u32]; omega) | (rw [Int.tmod_eq_emod_of_nonneg (by omega)]) | rfl)⟩) hSd ?_
        (try simp only [List.getElem_toArray, List.getElem_cons_succ, List.getElem_cons_zero, Act.put, List.setIfInBounds_toArray, List.set_cons_zero, List.set_cons_succ])
        refine wpAnyH_take (i := 2) (v := .int .i64 (i : Int)) rfl (by kernel_rfl) (by kernel_rfl) (by kernel_rfl) (fun _ _ _ h => h) (Or.inl ⟨by rfl, by intro w' hS'; go_simp <;> (first | omega | (rw [IntKind.wrap_i64]; omega) | (rw [IntKind.wrap_u64]; omega) | (rw [IntKind.wrap_u32]; omega) | (rw [Int.tmod_eq_emod_of_nonneg (by omega)]) | rfl)⟩) hSd ?_
        (try simp only [List.getElem_toArray, List.getElem_cons_succ, List.getElem_cons_zero, Act.put, List.setIfInBounds_toArray, List.set_cons_zero, List.set_cons_succ])
        refine wpAnyH_take (i := 3) (v := .pointer (some ⟨C, i, none⟩)) rfl (by kernel_rfl) (by kernel_rfl) (by kernel_rfl) (fun _ _ _ h => h) (Or.inl ⟨by rfl, by intro w' hS'; go_simp <;> (first | omega | (rw [IntKind.wrap_i64]; omega) | (rw [IntKind.wrap_u64]; omega) | (rw [IntKind.wrap_u32]; omega) | (rw [Int.tmod_eq_emod_of_nonneg (by omega)]) | rfl)⟩) hSd ?_
        (try simp only [List.getElem_toArray, List.getElem_cons_succ, List.getElem_cons_zero, Act.put, List.setIfInBounds_toArray, List.set_cons_zero, List.set_cons_succ])
        refine wpAnyH_take (i := 4) (v := .string s) rfl (by kernel_rfl) (by kernel_rfl) (by kernel_rfl) (fun _ _ _ h => h) (Or.inl ⟨by rfl, by intro w' hS'; have hxx := HX.out w' hS'; go_simp <;> (first | omega | (rw [IntKind.wrap_i64]; omega) | (rw [IntKind.wrap_u64]; omega) | (rw [IntKind.wrap_u32]; omega) | (rw [Int.tmod_eq_emod_of_nonneg (by omega)]) | rfl)⟩) hSd ?_
        (try simp only [List.getElem_toArray, List.getElem_cons_succ, List.getElem_cons_zero, Act.put, List.setIfInBounds_toArray, List.set_cons_zero, List.set_cons_succ])
        refine wpAnyH_take (i := 5) (v := .pointer (some ⟨g, 0, none⟩)) rfl (by kernel_rfl) (by kernel_rfl) (by kernel_rfl) (fun _ _ _ h => h) (Or.inl ⟨by rfl, by intro w' hS'; go_simp <;> (first | omega | (rw [IntKind.wrap_i64]; omega) | (rw [IntKind.wrap_u64]; omega) | (rw [IntKind.wrap_u32]; omega) | (rw [Int.tmod_eq_emod_of_nonneg (by omega)]) | rfl)⟩) hSd ?_
        (try simp only [List.getElem_toArray, List.getElem_cons_succ, List.getElem_cons_zero, Act.put, List.setIfInBounds_toArray, List.set_cons_zero, List.set_cons_succ])
        refine held_stepS (i := 6) (by kernel_rfl) rfl (by rfl) ?_
        go_simp
        refine HDA.out.mono ?_
        rintro e w5 ⟨⟨d, hd, rfl⟩, hr5⟩
        have HT5 := hidD (HT2.out.rd3 hr5)
        have HDS := hidD hd
        have hS5 : S w5 := by rw [HSS.out]; exact HT5.out.row
        clear hr5 HT2 HDA hd
        refine ⟨hS5, ?_⟩
        (try simp only [List.getElem_toArray, List.getElem_cons_succ, List.getElem_cons_zero, Act.put, List.setIfInBounds_toArray, List.set_cons_zero, List.set_cons_succ])
        refine wpAnyH_take (i := 7) (v := .agg #[.string s, .string d]) rfl (by kernel_rfl) (by kernel_rfl) (by kernel_rfl) (fun _ _ _ h => h) (Or.inl ⟨by rfl, by intro w' hS'; go_simp <;> (first | omega | (rw [IntKind.wrap_i64]; omega) | (rw [IntKind.wrap_u64]; omega) | (rw [IntKind.wrap_u32]; omega) | (rw [Int.tmod_eq_emod_of_nonneg (by omega)]) | rfl)⟩) hS5 ?_
        (try simp only [List.getElem_toArray, List.getElem_cons_succ, List.getElem_cons_zero, Act.put, List.setIfInBounds_toArray, List.set_cons_zero, List.set_cons_succ])
        have HTX := hidD (HT5.out.alloc (.cells #[.string s, .string d] 46))
        have hS6 : S (w5.alloc (.cells #[.string s, .string d] 46)) := by rw [HSS.out]; exact HTX.out.row
        refine held_stepS (i := 8) (by kernel_rfl) rfl (by rfl) ?_
        go_simp
        refine ⟨hS6, ?_⟩
        (try simp only [List.getElem_toArray, List.getElem_cons_succ, List.getElem_cons_zero, Act.put, List.setIfInBounds_toArray, List.set_cons_zero, List.set_cons_succ])
        obtain ⟨g', c', w9, hrun, hown', hgrow, hfr⟩ := run_append_fr (P := Tryd.prog) (w5.alloc (.cells #[.string s, .string d] 46)) w0.heap.size 40 40 46 i0 _ 2 32 Tryd.underlying40 hi hz0 hz1 hz2 rfl (by decide) gv cp L.length _ HTX.out.dn.own ⟨w5.heap.size, 0, none⟩ 1 1 [.string s, .string d] rfl cell_two (mb_oneD _ _) (by unfold maxLen; omega) (by omega) HTX.out.dn.rd.below.size
        have HT9 := hidD (TD.app (p := ⟨s, d⟩) HTX.out ⟨HSZ.out, HDS.out⟩ HSN.out hown' hgrow hfr)
        have hS9 : S w9 := by rw [HSS.out]; exact HT9.out.row
        clear hown' hgrow hfr HTX HT5
        refine held_stepS (i := 9) (by kernel_rfl) rfl (by rfl) ?_
        refine wp_append_run _ _ 40 rfl _ _ _ rfl rfl hrun ?_
        refine ⟨hS9, ?_⟩
        (try simp only [List.getElem_toArray, List.getElem_cons_succ, List.getElem_cons_zero, Act.put, List.setIfInBounds_toArray, List.set_cons_zero, List.set_cons_succ])
        refine wpAnyH_take (i := 10) (v := .slice (some ⟨g', 0, none⟩) (L.length + 1) c') rfl (by kernel_rfl) (by kernel_rfl) (by kernel_rfl) (fun _ _ _ h => h) (Or.inl ⟨by rfl, by intro w' hS'; go_simp <;> (first | omega | (rw [IntKind.wrap_i64]; omega) | (rw [IntKind.wrap_u64]; omega) | (rw [IntKind.wrap_u32]; omega) | (rw [Int.tmod_eq_emod_of_nonneg (by omega)]) | rfl)⟩) hS9 ?_
        (try simp only [List.getElem_toArray, List.getElem_cons_succ, List.getElem_cons_zero, Act.put, List.setIfInBounds_toArray, List.set_cons_zero, List.set_cons_succ])
        refine wpAnyH_done (by kernel_rfl) ?_ _
        clear hSd hS5 hS6 hS9 hrun HX HSS
        go_wp2_with fail
        go_roundw
        case rel => exact ⟨i + 1, _, _, _, by omega, by simp; omega, by simp, by go_num, HT9⟩
        case measure => simp [intMb]; omega
    · obtain rfl : i = 7 := by omega
      go_wp2_with fail
      refine (once_any HS.out HT.out.dn.rd 12 (by omega) (by omega)).mono ?_
      rintro e w2 ⟨⟨x, rfl⟩, hr2⟩
      have HT2 := hidD (HT.out.rd3 hr2)
      clear hr2 HT
      cases x with
      | false =>
        go_wp2_with fail
        go_ret
        exact ⟨_, L, by omega, rfl, HT2.out.dn⟩
      | true =>
        obtain ⟨wa, hwa⟩ : ∃ wa, wa = w2.alloc (.cells xnVals 9) := ⟨_, rfl⟩
        have HTA : Hid (TD w0 a len cap g C wa gv cp L) := by rw [hwa]; exact HT2.out.alloc _
        have HRW : Hid (wa.heap[w2.heap.size]? = some (.cells xnVals 9 (0, 0))) := by rw [hwa]; exact heap_alloc_new w2 _
        have HNG : Hid (w2.heap.size ≠ g) := by have := HT2.out.dn.rd.lt; show _ ≠ _; omega
        have HWA := hidD hwa
        unfold xnVals at HWA
        clear hwa HT2
        go_wp2_with fail
        try rw [← HWA.out]
        generalize w2.heap.size = B at HRW HNG ⊢
        refine (below_any HS.out HTA.out.dn.rd 3 (by omega) (by omega)).mono ?_
        rintro e w3 ⟨⟨x, hx1, hx2, rfl⟩, hr3⟩
        obtain ⟨k, rfl⟩ := Int.eq_ofNat_of_zero_le hx1
        obtain ⟨s, hs, hsn, hat⟩ := xnVals_at k (by omega)
        have xk := (cell_of_row w3 B k _ _ _ ((hr3.grown.block _ (row_ltD HRW.out) (fun e => HNG.out (Option.some.inj e))).trans HRW.out)).trans hat
        have HT3 := hidD (HTA.out.rd3 hr3)
        have HTX := hidD (HT3.out.alloc (.cells #[.string s, .string ⟨#[]⟩] 46))
        have HSN := hidD hsn
        clear hr3 HTA HRW HWA hat hx1 hsn
        go_wp2_with (at_builtin; (refine wpList_append_fr _ rfl _ _ 40 rfl w0.heap.size 46 i0 _ 2 32 Tryd.underlying40 hi hz0 hz1 hz2 rfl (by decide) gv cp L.length _ rfl HTX.out.dn.own ⟨w3.heap.size, 0, none⟩ 1 1 [.string s, .string ⟨#[]⟩] rfl rfl cell_two ?k2 ?k3 ?k4 ?k5 ?_))
        case k2 => exact mb_oneD _ _
        case k3 => unfold maxLen; omega
        case k4 => omega
        case k5 => exact HTX.out.dn.rd.below.size
        intro g' c' w9 hown' hgrow hfr
        have HT9 := hidD (TD.app (p := ⟨s, ⟨#[]⟩⟩) HTX.out ⟨hs, Nat.zero_le _⟩ HSN.out hown' hgrow (by rw [World.size_alloc]; exact hfr))
        clear hown' hgrow hfr HTX
        go_wp2_with fail
        go_ret
        exact ⟨_, L ++ [⟨s, ⟨#[]⟩⟩], by simp; omega, rfl, by have h := HT9.out.dn; rw [List.length_append] at h; exact h⟩
set_option maxRecDepth 100000 in
set_option maxHeartbeats 1000000 in
theorem drawGrouped {w0 : World} {a : Option Addr} {len cap : Nat} {W : World} (hS : Src w0 a len) (hb : Below w0.heap.size w0 W) :
    Calls Tryd.prog 21 #[.slice a len cap] W fun e w' => (∃ (v : Value) (L : List MbI), L.length ≤ 8 ∧ (∀ p ∈ L, p.a.size ≤ 100 ∧ p.d.size ≤ 600) ∧ (∀ p ∈ L, p.a ≠ nbT) ∧ e = .returned v ∧ w'.ownsRow w0.heap.size 46 2 v L.length (mbC L)) ∧ Below w0.heap.size w0 w' := by
  go_enter Tryd.func21, Tryd.ntmps21
  go_wp2_with fail
  refine (open_any hb).mono ?_
  rintro e w1 ⟨rfl, hr, _⟩
  generalize W.heap.size = g at hr ⊢
  have HR2 := hidD hr
  clear hr hb
  go_wp2_with fail
  refine (members_drawn hS HR2.out).mono ?_
  rintro e w3 ⟨v, L, hL, rfl, hd⟩
  have HD3 := hidD hd
  clear hd HR2
  go_wp2_with fail
  go_ret
  exact ⟨⟨v, L, hL, HD3.out.sz, HD3.out.nob, rfl, HD3.out.own⟩, HD3.out.rd.below⟩
theorem mbTot_sz (F : Nat → MbI) : ∀ n : Nat, (∀ i, i < n → (F i).a.size ≤ 100 ∧ (F i).d.size ≤ 600) → mbTot F n ≤ 700 * n
  | 0, _ => Nat.le_refl _
  | n + 1, h => by
    have h1 := mbTot_sz F n (fun i hi => h i (by omega))
    have h2 := h n (by omega)
    show mbTot F n + ((F n).a.size + (F n).d.size) ≤ _
    omega
theorem mbF_sz (L : List MbI) (h : ∀ p ∈ L, p.a.size ≤ 100 ∧ p.d.size ≤ 600) {i : Nat} (hi : i < L.length) : (mbF L i).a.size ≤ 100 ∧ (mbF L i).d.size ≤ 600 := by
  rw [mbF_at hi]; exact h _ (List.getElem_mem hi)
theorem mbF_leD (L : List MbI) (hL : L.length ≤ 8) (h : ∀ p ∈ L, p.a.size ≤ 100 ∧ p.d.size ≤ 600) : MbLe (mbF L) L.length := by
  have := mbTot_sz (mbF L) L.length (fun i hi => mbF_sz L h hi)
  exact ⟨by omega, by omega⟩
end Go.Proofs.YtfegoldjejlcaaaDoor
