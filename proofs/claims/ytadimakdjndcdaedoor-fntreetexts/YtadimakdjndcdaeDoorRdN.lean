/-
  The readers of numbers and data, without what is read of pieces.
-/
import Derived.Test.YtadimakdjndcdaeDoorTakeTextc
import Derived.Test.YtadimakdjndcdaeDoorPost
import Derived.BigQuiet
namespace Go.Proofs.YtadimakdjndcdaeDoor
open Go.RowKit
set_option linter.unusedVariables false
set_option linter.unusedSimpArgs false
/-- a number that may stand in a text, and where it ends -/
def numI (s : ByteArray) : Option (Nat × ByteArray) := match num s with
  | none => none
  | some (X, u) => if X ≤ 1000000000000 then some (X.toNat, s.extract u s.size) else none
def numIV : Option (Nat × ByteArray) → Value
  | none => .tuple #[.int .i64 0, .string ⟨#[]⟩, .bool false]
  | some (n, r) => .tuple #[.int .i64 (n : Int), .string r, .bool true]
theorem numI_none1 {s : ByteArray} (h : num s = none) : numI s = none := by unfold numI; rw [h]
theorem numI_none2 {s : ByteArray} {X : Int} {u : Nat} (h : num s = some (X, u)) (hx : ¬ X ≤ 1000000000000) : numI s = none := by unfold numI; rw [h]; exact if_neg hx
theorem numI_some {s : ByteArray} {X : Int} {u : Nat} (h : num s = some (X, u)) (hx : X ≤ 1000000000000) : numI s = some (X.toNat, s.extract u s.size) := by unfold numI; rw [h]; exact if_pos hx
theorem num_nn {s : ByteArray} {X : Int} {u : Nat} (h : num s = some (X, u)) : 0 ≤ X := rd_nn _ _ _ _ _ h
theorem numI_bd {s : ByteArray} {n : Nat} {r : ByteArray} (h : numI s = some (n, r)) : n ≤ 1000000000000 ∧ r.size ≤ s.size := by
  unfold numI at h
  cases hn : num s with
  | none => rw [hn] at h; cases h
  | some p =>
    obtain ⟨X, u⟩ := p
    rw [hn] at h
    simp only at h
    split at h
    · simp only [Option.some.injEq, Prod.mk.injEq] at h
      have := num_nn hn
      refine ⟨by omega, ?_⟩
      rw [← h.2, ByteArray.size_extract]; omega
    · cases h
def datI (s : ByteArray) : Option (ByteArray × ByteArray) := match txt s with
  | none => none
  | some (n, u) => some (s.extract u (u + n), s.extract (u + n) s.size)
theorem datI_out (s : ByteArray) : textOut s = (match datI s with | none => .tuple #[.string ⟨#[]⟩, .string ⟨#[]⟩, .bool false] | some (d, r) => .tuple #[.string d, .string r, .bool true]) := by
  unfold textOut datI
  cases txt s with
  | none => rfl
  | some p => obtain ⟨n, u⟩ := p; rfl
theorem datI_bd {s d r : ByteArray} (h : datI s = some (d, r)) : d.size ≤ s.size ∧ r.size ≤ s.size := by
  unfold datI at h
  cases ht : txt s with
  | none => rw [ht] at h; cases h
  | some p =>
    obtain ⟨n, u⟩ := p
    rw [ht] at h
    simp only [Option.some.injEq, Prod.mk.injEq] at h
    rw [← h.1, ← h.2, ByteArray.size_extract, ByteArray.size_extract]; omega
set_option maxRecDepth 100000 in
set_option maxHeartbeats 1000000 in
theorem snumI_any (s : ByteArray) (w : World) (hs : s.size ≤ 1048576) :
    Calls Tryd.prog 53 #[.string s] w fun e w' => e = .returned (numIV (numI s)) ∧ Below w.heap.size w w' := by
  have HT : Hid (∀ w, Calls Tryd.prog 77 #[.string s] w fun e w' => e = .returned (takeOut s) ∧ Below w.heap.size w w') := fun w => stake_any s w (by unfold maxLen; omega)
  cases hn : num s with
  | none =>
    rw [numI_none1 hn]
    rw [takeOut_none hn] at HT
    clear hn
    go_enter Tryd.func53, Tryd.ntmps53
    go_wp2_with fail
    refine (HT.out _).mono ?_
    rintro e w1 ⟨rfl, hb1⟩
    go_wp2_with fail
    go_ret3
    exact ⟨rfl, hb1⟩
  | some p =>
    obtain ⟨X, u⟩ := p
    have h0 := num_nn hn
    rw [takeOut_some hn] at HT
    by_cases hx : X ≤ 1000000000000
    · rw [numI_some hn hx]
      obtain ⟨x, rfl⟩ : ∃ x : Nat, X = (x : Int) := ⟨X.toNat, by omega⟩
      rw [Int.toNat_natCast]
      have hxI : ¬ (1000000000000 : Int) < (x : Int) := by omega
      have hw : IntKind.i64.wrap (x : Int) = (x : Int) := by rw [IntKind.wrap_i64]; omega
      clear hn hx h0
      go_enter Tryd.func53, Tryd.ntmps53
      go_wp2_with fail
      refine (HT.out _).mono ?_
      rintro e w1 ⟨rfl, hb1⟩
      go_wp2_with fail
      go_ret3
      exact ⟨rfl, hb1⟩
    · rw [numI_none2 hn hx]
      have hxI : (1000000000000 : Int) < X := by omega
      clear hn hx h0
      go_enter Tryd.func53, Tryd.ntmps53
      go_wp2_with fail
      refine (HT.out _).mono ?_
      rintro e w1 ⟨rfl, hb1⟩
      go_wp2_with fail
      go_ret3
      exact ⟨rfl, hb1⟩
set_option maxRecDepth 100000 in
set_option maxHeartbeats 1000000 in
theorem numOf_any (s : ByteArray) (w : World) (hs : s.size ≤ 1048576) :
    Calls Tryd.prog 47 #[.string s] w fun e w' => e = .returned (numIV (numI s)) ∧ Below w.heap.size w w' := by
  have HT : Hid (∀ w, Calls Tryd.prog 73 #[.string s] w fun e w' => e = .returned (numOut s) ∧ w' = w) := fun w => read_any s w (by unfold maxLen; omega)
  cases hn : num s with
  | none =>
    rw [numI_none1 hn]
    rw [numOut_none hn] at HT
    clear hn
    go_enter Tryd.func47, Tryd.ntmps47
    go_wp2_with fail
    refine (HT.out _).mono ?_
    rintro e w1 ⟨rfl, hw1⟩
    subst w1
    go_wp2_with fail
    go_ret3
    exact ⟨rfl, Below.refl _ _⟩
  | some p =>
    obtain ⟨X, u⟩ := p
    have h0 := num_nn hn
    obtain ⟨u1, u2, u3⟩ := num_bd hn
    rw [numOut_some hn] at HT
    have huI : ¬ (u : Int) = 0 := by omega
    have hub := beq_eq_false_iff_ne.2 huI
    have huS : (u : Int) ≤ (s.size : Int) := by omega
    by_cases hx : X ≤ 1000000000000
    · rw [numI_some hn hx]
      obtain ⟨x, rfl⟩ : ∃ x : Nat, X = (x : Int) := ⟨X.toNat, by omega⟩
      rw [Int.toNat_natCast]
      have hxI : ¬ (1000000000000 : Int) < (x : Int) := by omega
      have hw : IntKind.i64.wrap (x : Int) = (x : Int) := by rw [IntKind.wrap_i64]; omega
      clear hn hx h0
      go_enter Tryd.func47, Tryd.ntmps47
      go_wp2_with fail
      refine (HT.out _).mono ?_
      rintro e w1 ⟨rfl, hw1⟩
      subst w1
      go_wp2_with fail
      go_region
      go_wp2_with fail
      go_ret3
      exact ⟨rfl, (Below.refl _ _).drew⟩
    · rw [numI_none2 hn hx]
      have hxI : (1000000000000 : Int) < X := by omega
      clear hn hx h0
      go_enter Tryd.func47, Tryd.ntmps47
      go_wp2_with fail
      refine (HT.out _).mono ?_
      rintro e w1 ⟨rfl, hw1⟩
      subst w1
      go_wp2_with fail
      go_ret3
      exact ⟨rfl, Below.refl _ _⟩
def datIV : Option (ByteArray × ByteArray) → Value
  | none => .tuple #[.string ⟨#[]⟩, .string ⟨#[]⟩, .bool false]
  | some (d, r) => .tuple #[.string d, .string r, .bool true]
theorem datI_numn {s : ByteArray} (h : numI s = none) : datI s = none := by
  unfold datI txt
  cases hn : num s with
  | none => rfl
  | some p =>
    obtain ⟨X, u⟩ := p
    have hx : ¬ X ≤ 1000000000000 := fun c => by rw [numI_some hn c] at h; cases h
    simp only
    rw [if_neg (fun c => hx (by have := c.1; omega))]
theorem datI_numb {s r : ByteArray} {n : Nat} (h : numI s = some (n, r)) (hb : ¬ (n ≤ 100000 ∧ n ≤ r.size)) : datI s = none := by
  unfold datI txt
  cases hn : num s with
  | none => rfl
  | some p =>
    obtain ⟨X, u⟩ := p
    have h0 := num_nn hn
    have hx : X ≤ 1000000000000 := by
      by_cases c : X ≤ 1000000000000
      · exact c
      · rw [numI_none2 hn c] at h; cases h
    rw [numI_some hn hx] at h
    simp only [Option.some.injEq, Prod.mk.injEq] at h
    obtain ⟨rfl, rfl⟩ := h
    simp only
    rw [if_neg (fun c => hb ⟨by have := c.1; omega, by rw [ByteArray.size_extract]; have := c.2; omega⟩)]
theorem datI_num {s r : ByteArray} {n : Nat} (h : numI s = some (n, r)) (h1 : n ≤ 100000) (h2 : n ≤ r.size) : datI s = some (r.extract 0 n, r.extract n r.size) := by
  unfold datI txt
  cases hn : num s with
  | none => rw [numI_none1 hn] at h; cases h
  | some p =>
    obtain ⟨X, u⟩ := p
    have h0 := num_nn hn
    have hu := num_bd hn
    have hx : X ≤ 1000000000000 := by
      by_cases c : X ≤ 1000000000000
      · exact c
      · rw [numI_none2 hn c] at h; cases h
    rw [numI_some hn hx] at h
    simp only [Option.some.injEq, Prod.mk.injEq] at h
    obtain ⟨rfl, rfl⟩ := h
    rw [ByteArray.size_extract] at h2
    simp only
    rw [if_pos ⟨by omega, by omega⟩]
    simp only
    rw [ext_mid _ _ _ (by omega)]
    have e : (s.extract u s.size).size = s.size - u := by rw [ByteArray.size_extract]; omega
    rw [e, ext_tail]
set_option maxRecDepth 100000 in
set_option maxHeartbeats 1000000 in
theorem dataOf_any (s : ByteArray) (w : World) (hs : s.size ≤ 1048576) :
    Calls Tryd.prog 74 #[.string s] w fun e w' => e = .returned (datIV (datI s)) ∧ Below w.heap.size w w' := by
  have HT : Hid (∀ w, Calls Tryd.prog 47 #[.string s] w fun e w' => e = .returned (numIV (numI s)) ∧ Below w.heap.size w w') := fun w => numOf_any s w hs
  cases hn : numI s with
  | none =>
    rw [datI_numn hn]
    rw [hn] at HT
    clear hn
    unfold numIV at HT
    go_enter Tryd.func74, Tryd.ntmps74
    go_wp2_with fail
    refine (HT.out _).mono ?_
    rintro e w1 ⟨rfl, hb1⟩
    go_wp2_with fail
    go_ret3
    exact ⟨rfl, hb1⟩
  | some p =>
    obtain ⟨n, r⟩ := p
    have hr := (numI_bd hn).2
    rw [hn] at HT
    unfold numIV at HT
    by_cases h1 : n ≤ 100000
    · have h1I : ¬ (100000 : Int) < (n : Int) := by omega
      by_cases h2 : n ≤ r.size
      · have h2I : ¬ (r.size : Int) < (n : Int) := by omega
        have h2J : (n : Int) ≤ (r.size : Int) := by omega
        rw [datI_num hn h1 h2]
        clear hn
        go_enter Tryd.func74, Tryd.ntmps74
        go_wp2_with fail
        refine (HT.out _).mono ?_
        rintro e w1 ⟨rfl, hb1⟩
        go_wp2_with fail
        go_region
        go_wp2_with fail
        go_ret3
        exact ⟨rfl, hb1.drew⟩
      · have h2I : (r.size : Int) < (n : Int) := by omega
        rw [datI_numb hn (fun c => h2 c.2)]
        clear hn
        go_enter Tryd.func74, Tryd.ntmps74
        go_wp2_with fail
        refine (HT.out _).mono ?_
        rintro e w1 ⟨rfl, hb1⟩
        go_wp2_with fail
        go_ret3
        exact ⟨rfl, hb1⟩
    · have h1I : (100000 : Int) < (n : Int) := by omega
      rw [datI_numb hn (fun c => h1 c.1)]
      clear hn
      go_enter Tryd.func74, Tryd.ntmps74
      go_wp2_with fail
      refine (HT.out _).mono ?_
      rintro e w1 ⟨rfl, hb1⟩
      go_wp2_with fail
      go_ret3
      exact ⟨rfl, hb1⟩
theorem stext_datI (s : ByteArray) (w : World) (hs : s.size ≤ 1048576) :
    Calls Tryd.prog 54 #[.string s] w fun e w' => e = .returned (datIV (datI s)) ∧ Below w.heap.size w w' := by
  have h := stakeText_any s w (by unfold maxLen; omega) (by omega)
  have e : textOut s = datIV (datI s) := by
    rw [datI_out]
    cases datI s with
    | none => rfl
    | some p => rfl
  rw [e] at h
  exact h
theorem results_cell_2 {P : Program} {fn : Func} {t u p : Tmp} {ty : TypeId} (h : fn.results = #[.cell p ty, .tmp t, .tmp u]) (tmps : Array Value) (w : World) (g : Nat) (t2 : TypeId) (cs : Array Value) (fr : Nat × Nat) (d : TypeDesc)
    (hp : tmps.getD p undef = .pointer (some ⟨g, 0, none⟩)) (hg : w.heap[g]? = some (.cells cs t2 fr))
    (hu : P.underlying ty = some d) (hd : (match d with | .struct _ | .array _ _ => true | _ => false) = true) (hi : (P.info? ty).map (·.size) = some cs.size) :
    (results fn tmps).run P w = .ok (.tuple #[.agg cs, tmps.getD t undef, tmps.getD u undef]) w := by
  have hp' : tmps[p]?.getD undef = .pointer (some ⟨g, 0, none⟩) := by simpa using hp
  simp [results, h, hp', asAddr, run_loadVar_row w g t2 ty cs fr d hg hu hd hi]
end Go.Proofs.YtadimakdjndcdaeDoor
