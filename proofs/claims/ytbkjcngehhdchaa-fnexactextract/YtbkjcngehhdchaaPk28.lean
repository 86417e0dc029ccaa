/-
  Several texts of this seat as one: RdN, SdM, SdT.
-/
import Derived.Test.YtbkjcngehhdchaaPk27
import Derived.BigQuiet
import Derived.Test.YtbkjcngehhdchaaPk26
import Derived.Test.YtbkjcngehhdchaaPk18
import Derived.Test.YtbkjcngehhdchaaPk07

/-!   The readers of numbers and data, without what is read of pieces. -/
namespace Go.Proofs.Ytbkjcngehhdchaa
open Go.RowKit
set_option linter.unusedVariables false
set_option linter.unusedSimpArgs false
/-- a number that may stand in a text, and where it ends -/
def numI (s : ByteArray) : Option (Nat × ByteArray) := match num s with
  | none => none
  | some (X, u) => if X ≤ 1000000000000 then some (X.toNat, s.extract u s.size) else none
def numIV : Option (Nat × ByteArray) → Value
  | none => .tuple #[.int .i64 0, .string ⟨#[]⟩, .bool false]
  | some (n, r) => .tuple #[.int .i64 (n : Int), .string r, .bool true]
theorem numI_none1 {s : ByteArray} (h : num s = none) : numI s = none := by unfold numI; rw [h]
theorem numI_none2 {s : ByteArray} {X : Int} {u : Nat} (h : num s = some (X, u)) (hx : ¬ X ≤ 1000000000000) : numI s = none := by unfold numI; rw [h]; exact if_neg hx
theorem numI_some {s : ByteArray} {X : Int} {u : Nat} (h : num s = some (X, u)) (hx : X ≤ 1000000000000) : numI s = some (X.toNat, s.extract u s.size) := by unfold numI; rw [h]; exact if_pos hx
theorem num_nn {s : ByteArray} {X : Int} {u : Nat} (h : num s = some (X, u)) : 0 ≤ X := rd_nn _ _ _ _ _ h
theorem numI_bd {s : ByteArray} {n : Nat} {r : ByteArray} (h : numI s = some (n, r)) : n ≤ 1000000000000 ∧ r.size ≤ s.size := by
  unfold numI at h
  cases hn : num s with
  | none => rw [hn] at h; cases h
  | some p =>
    obtain ⟨X, u⟩ := p
    rw [hn] at h
    simp only at h
    split at h
    · simp only [Option.some.injEq, Prod.mk.injEq] at h
      have := num_nn hn
      refine ⟨by omega, ?_⟩
      rw [← h.2, ByteArray.size_extract]; omega
    · cases h
def datI (s : ByteArray) : Option (ByteArray × ByteArray) := match txt s with
  | none => none
  | some (n, u) => some (s.extract u (u + n), s.extract (u + n) s.size)
theorem datI_out (s : ByteArray) : textOut s = (match datI s with | none => .tuple #[.string ⟨#[]⟩, .string ⟨#[]⟩, .bool false] | some (d, r) => .tuple #[.string d, .string r, .bool true]) := by
  unfold textOut datI
  cases txt s with
  | none => rfl
  | some p => obtain ⟨n, u⟩ := p; rfl
theorem datI_bd {s d r : ByteArray} (h : datI s = some (d, r)) : d.size ≤ s.size ∧ r.size ≤ s.size := by
  unfold datI at h
  cases ht : txt s with
  | none => rw [ht] at h; cases h
  | some p =>
    obtain ⟨n, u⟩ := p
    rw [ht] at h
    simp only [Option.some.injEq, Prod.mk.injEq] at h
    rw [← h.1, ← h.2, ByteArray.size_extract, ByteArray.size_extract]; omega
set_option maxRecDepth 100000 in
set_option maxHeartbeats 1000000 in
theorem snumI_any (s : ByteArray) (w : World) (hs : s.size ≤ 1048576) :
    Calls Try.prog 39 #[.string s] w fun e w' => e = .returned (numIV (numI s)) ∧ Below w.heap.size w w' := by
  have HT : Hid (∀ w, Calls Try.prog 59 #[.string s] w fun e w' => e = .returned (takeOut s) ∧ Below w.heap.size w w') := fun w => stake_any s w (by unfold maxLen; omega)
  cases hn : num s with
  | none =>
    rw [numI_none1 hn]
    rw [takeOut_none hn] at HT
    clear hn
    go_enter Try.func39, Try.ntmps39
    go_wp2_with fail
    refine (HT.out _).mono ?_
    rintro e w1 ⟨rfl, hb1⟩
    go_wp2_with fail
    go_ret3
    exact ⟨rfl, hb1⟩
  | some p =>
    obtain ⟨X, u⟩ := p
    have h0 := num_nn hn
    rw [takeOut_some hn] at HT
    by_cases hx : X ≤ 1000000000000
    · rw [numI_some hn hx]
      obtain ⟨x, rfl⟩ : ∃ x : Nat, X = (x : Int) := ⟨X.toNat, by omega⟩
      rw [Int.toNat_natCast]
      have hxI : ¬ (1000000000000 : Int) < (x : Int) := by omega
      have hw : IntKind.i64.wrap (x : Int) = (x : Int) := by rw [IntKind.wrap_i64]; omega
      clear hn hx h0
      go_enter Try.func39, Try.ntmps39
      go_wp2_with fail
      refine (HT.out _).mono ?_
      rintro e w1 ⟨rfl, hb1⟩
      go_wp2_with fail
      go_ret3
      exact ⟨rfl, hb1⟩
    · rw [numI_none2 hn hx]
      have hxI : (1000000000000 : Int) < X := by omega
      clear hn hx h0
      go_enter Try.func39, Try.ntmps39
      go_wp2_with fail
      refine (HT.out _).mono ?_
      rintro e w1 ⟨rfl, hb1⟩
      go_wp2_with fail
      go_ret3
      exact ⟨rfl, hb1⟩
set_option maxRecDepth 100000 in
set_option maxHeartbeats 1000000 in
theorem numOf_any (s : ByteArray) (w : World) (hs : s.size ≤ 1048576) :
    Calls Try.prog 63 #[.string s] w fun e w' => e = .returned (numIV (numI s)) ∧ Below w.heap.size w w' := by
  have HT : Hid (∀ w, Calls Try.prog 65 #[.string s] w fun e w' => e = .returned (numOut s) ∧ w' = w) := fun w => read_any s w (by unfold maxLen; omega)
  cases hn : num s with
  | none =>
    rw [numI_none1 hn]
    rw [numOut_none hn] at HT
    clear hn
    go_enter Try.func63, Try.ntmps63
    go_wp2_with fail
    refine (HT.out _).mono ?_
    rintro e w1 ⟨rfl, hw1⟩
    subst w1
    go_wp2_with fail
    go_ret3
    exact ⟨rfl, Below.refl _ _⟩
  | some p =>
    obtain ⟨X, u⟩ := p
    have h0 := num_nn hn
    obtain ⟨u1, u2, u3⟩ := num_bd hn
    rw [numOut_some hn] at HT
    have huI : ¬ (u : Int) = 0 := by omega
    have hub := beq_eq_false_iff_ne.2 huI
    have huS : (u : Int) ≤ (s.size : Int) := by omega
    by_cases hx : X ≤ 1000000000000
    · rw [numI_some hn hx]
      obtain ⟨x, rfl⟩ : ∃ x : Nat, X = (x : Int) := ⟨X.toNat, by omega⟩
      rw [Int.toNat_natCast]
      have hxI : ¬ (1000000000000 : Int) < (x : Int) := by omega
      have hw : IntKind.i64.wrap (x : Int) = (x : Int) := by rw [IntKind.wrap_i64]; omega
      clear hn hx h0
      go_enter Try.func63, Try.ntmps63
      go_wp2_with fail
      refine (HT.out _).mono ?_
      rintro e w1 ⟨rfl, hw1⟩
      subst w1
      go_wp2_with fail
      go_region
      go_wp2_with fail
      go_ret3
      exact ⟨rfl, (Below.refl _ _).drew⟩
    · rw [numI_none2 hn hx]
      have hxI : (1000000000000 : Int) < X := by omega
      clear hn hx h0
      go_enter Try.func63, Try.ntmps63
      go_wp2_with fail
      refine (HT.out _).mono ?_
      rintro e w1 ⟨rfl, hw1⟩
      subst w1
      go_wp2_with fail
      go_ret3
      exact ⟨rfl, Below.refl _ _⟩
def datIV : Option (ByteArray × ByteArray) → Value
  | none => .tuple #[.string ⟨#[]⟩, .string ⟨#[]⟩, .bool false]
  | some (d, r) => .tuple #[.string d, .string r, .bool true]
theorem datI_numn {s : ByteArray} (h : numI s = none) : datI s = none := by
  unfold datI txt
  cases hn : num s with
  | none => rfl
  | some p =>
    obtain ⟨X, u⟩ := p
    have hx : ¬ X ≤ 1000000000000 := fun c => by rw [numI_some hn c] at h; cases h
    simp only
    rw [if_neg (fun c => hx (by have := c.1; omega))]
theorem datI_numb {s r : ByteArray} {n : Nat} (h : numI s = some (n, r)) (hb : ¬ (n ≤ 100000 ∧ n ≤ r.size)) : datI s = none := by
  unfold datI txt
  cases hn : num s with
  | none => rfl
  | some p =>
    obtain ⟨X, u⟩ := p
    have h0 := num_nn hn
    have hx : X ≤ 1000000000000 := by
      by_cases c : X ≤ 1000000000000
      · exact c
      · rw [numI_none2 hn c] at h; cases h
    rw [numI_some hn hx] at h
    simp only [Option.some.injEq, Prod.mk.injEq] at h
    obtain ⟨rfl, rfl⟩ := h
    simp only
    rw [if_neg (fun c => hb ⟨by have := c.1; omega, by rw [ByteArray.size_extract]; have := c.2; omega⟩)]
theorem datI_num {s r : ByteArray} {n : Nat} (h : numI s = some (n, r)) (h1 : n ≤ 100000) (h2 : n ≤ r.size) : datI s = some (r.extract 0 n, r.extract n r.size) := by
  unfold datI txt
  cases hn : num s with
  | none => rw [numI_none1 hn] at h; cases h
  | some p =>
    obtain ⟨X, u⟩ := p
    have h0 := num_nn hn
    have hu := num_bd hn
    have hx : X ≤ 1000000000000 := by
      by_cases c : X ≤ 1000000000000
      · exact c
      · rw [numI_none2 hn c] at h; cases h
    rw [numI_some hn hx] at h
    simp only [Option.some.injEq, Prod.mk.injEq] at h
    obtain ⟨rfl, rfl⟩ := h
    rw [ByteArray.size_extract] at h2
    simp only
    rw [if_pos ⟨by omega, by omega⟩]
    simp only
    rw [ext_mid _ _ _ (by omega)]
    have e : (s.extract u s.size).size = s.size - u := by rw [ByteArray.size_extract]; omega
    rw [e, ext_tail]
set_option maxRecDepth 100000 in
set_option maxHeartbeats 1000000 in
theorem dataOf_any (s : ByteArray) (w : World) (hs : s.size ≤ 1048576) :
    Calls Try.prog 43 #[.string s] w fun e w' => e = .returned (datIV (datI s)) ∧ Below w.heap.size w w' := by
  have HT : Hid (∀ w, Calls Try.prog 63 #[.string s] w fun e w' => e = .returned (numIV (numI s)) ∧ Below w.heap.size w w') := fun w => numOf_any s w hs
  cases hn : numI s with
  | none =>
    rw [datI_numn hn]
    rw [hn] at HT
    clear hn
    unfold numIV at HT
    go_enter Try.func43, Try.ntmps43
    go_wp2_with fail
    refine (HT.out _).mono ?_
    rintro e w1 ⟨rfl, hb1⟩
    go_wp2_with fail
    go_ret3
    exact ⟨rfl, hb1⟩
  | some p =>
    obtain ⟨n, r⟩ := p
    have hr := (numI_bd hn).2
    rw [hn] at HT
    unfold numIV at HT
    by_cases h1 : n ≤ 100000
    · have h1I : ¬ (100000 : Int) < (n : Int) := by omega
      by_cases h2 : n ≤ r.size
      · have h2I : ¬ (r.size : Int) < (n : Int) := by omega
        have h2J : (n : Int) ≤ (r.size : Int) := by omega
        rw [datI_num hn h1 h2]
        clear hn
        go_enter Try.func43, Try.ntmps43
        go_wp2_with fail
        refine (HT.out _).mono ?_
        rintro e w1 ⟨rfl, hb1⟩
        go_wp2_with fail
        go_region
        go_wp2_with fail
        go_ret3
        exact ⟨rfl, hb1.drew⟩
      · have h2I : (r.size : Int) < (n : Int) := by omega
        rw [datI_numb hn (fun c => h2 c.2)]
        clear hn
        go_enter Try.func43, Try.ntmps43
        go_wp2_with fail
        refine (HT.out _).mono ?_
        rintro e w1 ⟨rfl, hb1⟩
        go_wp2_with fail
        go_ret3
        exact ⟨rfl, hb1⟩
    · have h1I : (100000 : Int) < (n : Int) := by omega
      rw [datI_numb hn (fun c => h1 c.1)]
      clear hn
      go_enter Try.func43, Try.ntmps43
      go_wp2_with fail
      refine (HT.out _).mono ?_
      rintro e w1 ⟨rfl, hb1⟩
      go_wp2_with fail
      go_ret3
      exact ⟨rfl, hb1⟩
theorem stext_datI (s : ByteArray) (w : World) (hs : s.size ≤ 1048576) :
    Calls Try.prog 40 #[.string s] w fun e w' => e = .returned (datIV (datI s)) ∧ Below w.heap.size w w' := by
  have h := stakeText_any s w (by unfold maxLen; omega) (by omega)
  have e : textOut s = datIV (datI s) := by
    rw [datI_out]
    cases datI s with
    | none => rfl
    | some p => rfl
  rw [e] at h
  exact h
theorem results_cell_2 {P : Program} {fn : Func} {t u p : Tmp} {ty : TypeId} (h : fn.results = #[.cell p ty, .tmp t, .tmp u]) (tmps : Array Value) (w : World) (g : Nat) (t2 : TypeId) (cs : Array Value) (fr : Nat × Nat) (d : TypeDesc)
    (hp : tmps.getD p undef = .pointer (some ⟨g, 0, none⟩)) (hg : w.heap[g]? = some (.cells cs t2 fr))
    (hu : P.underlying ty = some d) (hd : (match d with | .struct _ | .array _ _ => true | _ => false) = true) (hi : (P.info? ty).map (·.size) = some cs.size) :
    (results fn tmps).run P w = .ok (.tuple #[.agg cs, tmps.getD t undef, tmps.getD u undef]) w := by
  have hp' : tmps[p]?.getD undef = .pointer (some ⟨g, 0, none⟩) := by simpa using hp
  simp [results, h, hp', asAddr, run_loadVar_row w g t2 ty cs fr d hg hu hd hi]
end Go.Proofs.Ytbkjcngehhdchaa

/-!   The specification's reader of ranges, in words of 32 bits: plain mathematics. -/
namespace Go.Proofs.Ytbkjcngehhdchaa
open Go.RowKit
set_option linter.unusedVariables false
set_option linter.unusedSimpArgs false
/-- the shifts behind a choice, in 32 bits -/
def snrm : Nat → Nat → List Nat → Bool × Nat × Nat × List Nat
  | w, c, [] => (decide (16777216 ≤ w), w, c, [])
  | w, c, b :: r => if w < 16777216 then snrm (w * 256) ((c * 256 + b) % 4294967296) r else (true, w, c, b :: r)
theorem snrm_done {w c : Nat} {l : List Nat} (h : 16777216 ≤ w) : snrm w c l = (true, w, c, l) := by
  cases l with
  | nil => simp [snrm, h]
  | cons b r => rw [snrm, if_neg (by omega)]
theorem snrm_step {w c b : Nat} {r : List Nat} (h : w < 16777216) : snrm w c (b :: r) = snrm (w * 256) ((c * 256 + b) % 4294967296) r := by rw [snrm, if_pos h]
theorem snrm_end {w c : Nat} (h : w < 16777216) : snrm w c [] = (false, w, c, []) := by
  rw [snrm, decide_eq_false (by omega)]
theorem snrm_fine {w c : Nat} {l : List Nat} (hw : w < 4294967296) (hc : c < 4294967296) (hl : ∀ x ∈ l, x < 256) : (snrm w c l).2.1 < 4294967296 ∧ (snrm w c l).2.2.1 < 4294967296 ∧ ∀ x ∈ (snrm w c l).2.2.2, x < 256 := by
  induction l generalizing w c with
  | nil => exact ⟨hw, hc, hl⟩
  | cons b r ih =>
    by_cases h : w < 16777216
    · rw [snrm_step h]
      exact ih (by omega) (by omega) (fun x hx => hl x (List.mem_cons_of_mem _ hx))
    · rw [snrm_done (by omega)]; exact ⟨hw, hc, hl⟩
theorem snrm_nrm {w c : Nat} {l : List Nat} (hw : w < 4294967296) (hc : c < w) (hl : ∀ x ∈ l, x < 256) : snrm w c l = nrm w c l ∧ (nrm w c l).2.2.1 < (nrm w c l).2.1 := by
  induction l generalizing w c with
  | nil => exact ⟨rfl, hc⟩
  | cons b r ih =>
    have hb := hl b (List.mem_cons_self ..)
    by_cases h : w < 16777216
    · rw [snrm_step h, nrm_step h]
      have e1 : (c * 256 + b) % 4294967296 = c * 256 + b := Nat.mod_eq_of_lt (by omega)
      have e2 : min (c * 256 + b) (w * 256) = c * 256 + b := by omega
      rw [e1, e2]
      exact ih (by omega) (by omega) (fun x hx => hl x (List.mem_cons_of_mem _ hx))
    · rw [snrm_done (by omega), nrm_done (by omega)]; exact ⟨rfl, hc⟩
def snx (s : DS) (x : Nat) : Bool × Nat × Nat × List Nat := snrm (s.w1 x) (s.c1 x) s.rest
def sgo (sb : DS × Bool) (x : Nat) : DS × Bool := if sb.2 = true then sb else (⟨(snx sb.1 x).2.1, (snx sb.1 x).2.2.1, sb.1.pr x, (snx sb.1 x).2.2.2⟩, !(snx sb.1 x).1)
def stell (sb : DS × Bool) (x : Nat) : Nat := if sb.2 = true then 0 else if (snx sb.1 x).1 = true then sb.1.bit x else 0
def sbitR (s : DS × Bool) (c _ : Nat) : Nat := stell s c
def snxtR (s : DS × Bool) (c _ : Nat) : DS × Bool := sgo s c
theorem stell_lt (sb : DS × Bool) (x : Nat) : stell sb x < 2 := by
  unfold stell DS.bit
  split
  · omega
  · split
    · split <;> omega
    · omega
theorem sgo_fine {sb : DS × Bool} (h : sb.1.Fine) (x : Nat) : (sgo sb x).1.Fine := by
  unfold sgo
  split
  · exact h
  · have hb := DS.bd_le h x
    have h1 : sb.1.w1 x < 4294967296 := by have := h.w; unfold DS.w1; split <;> omega
    have h2 : sb.1.c1 x < 4294967296 := by have := h.c; unfold DS.c1; split <;> omega
    obtain ⟨a, b, c⟩ := snrm_fine h1 h2 h.r
    refine ⟨a, b, fun j => ?_, c⟩
    show 1 ≤ sb.1.pr x j ∧ sb.1.pr x j ≤ 2047
    unfold DS.pr; split
    · exact movP_in _ (h.p x)
    · exact h.p j
theorem snx_nx {s : DS} (h : s.Fine) (hc : s.code < s.width) (x : Nat) : snx s x = s.nx x ∧ (s.go x).code < (s.go x).width := by
  have hb := DS.bd_le h x
  have h1 : s.w1 x < 4294967296 := by have := h.w; unfold DS.w1; split <;> omega
  have h2 : s.c1 x < s.w1 x := by unfold DS.c1 DS.w1; split <;> omega
  obtain ⟨a, b⟩ := snrm_nrm h1 h2 h.r
  exact ⟨a, b⟩
/-- the two readers go alike as long as the code's goes on -/
def Sim (sd sc : DS × Bool) : Prop := sc.2 = true → sd = (sc.1, false) ∧ sc.1.Fine ∧ sc.1.code < sc.1.width
theorem sim_step {sd sc : DS × Bool} (h : Sim sd sc) (c t : Nat) : Sim (snxtR sd c t) (nxtR sc c t) ∧ ((nxtR sc c t).2 = true → sbitR sd c t = bitR sc c t) := by
  constructor
  · intro hk
    have hk2 : sc.2 = true ∧ sc.1.ok c = true := by
      have : (sc.2 && sc.1.ok c) = true := hk
      simpa using this
    obtain ⟨e, hf, hc⟩ := h hk2.1
    obtain ⟨e1, e2⟩ := snx_nx hf hc c
    refine ⟨?_, hf.go c, e2⟩
    have hs : sgo (sc.1, false) c = (⟨(snx sc.1 c).2.1, (snx sc.1 c).2.2.1, sc.1.pr c, (snx sc.1 c).2.2.2⟩, !(snx sc.1 c).1) := by unfold sgo; rw [if_neg (by simp)]
    have h3 : (sc.1.nx c).1 = true := hk2.2
    rw [e]
    show sgo (sc.1, false) c = (sc.1.go c, false)
    rw [hs, e1, h3]; rfl
  · intro hk
    have hk2 : sc.2 = true ∧ sc.1.ok c = true := by
      have : (sc.2 && sc.1.ok c) = true := hk
      simpa using this
    obtain ⟨e, hf, hc⟩ := h hk2.1
    obtain ⟨e1, e2⟩ := snx_nx hf hc c
    rw [e]
    show stell (sc.1, false) c = sc.1.tell c
    unfold stell DS.tell
    rw [if_neg (by simp), e1, if_pos (show (sc.1.nx c).1 = true from hk2.2), if_pos hk2.2]
theorem nxtR_mono {sc : DS × Bool} {c t : Nat} (h : (nxtR sc c t).2 = true) : sc.2 = true := by
  have : (sc.2 && sc.1.ok c) = true := h
  simp at this
  exact this.1
theorem thR_mono (f : Nat) (v : Int) : ∀ (k nd : Nat) (sc : DS × Bool), (thT bitR nxtR f v k nd sc).1.2 = true → sc.2 = true
  | 0, _, _, h => h
  | k + 1, nd, sc, h => nxtR_mono (thR_mono f v k _ _ h)
theorem thT_sim (f : Nat) (v : Int) : ∀ (k nd : Nat) (sd sc : DS × Bool), Sim sd sc → (thT bitR nxtR f v k nd sc).1.2 = true → (thT sbitR snxtR f v k nd sd).2 = (thT bitR nxtR f v k nd sc).2 ∧ Sim (thT sbitR snxtR f v k nd sd).1 (thT bitR nxtR f v k nd sc).1
  | 0, _, _, _, h, _ => ⟨rfl, h⟩
  | k + 1, nd, sd, sc, h, hk => by
    have hk2 := thR_mono f v k _ _ hk
    obtain ⟨h1, h2⟩ := sim_step h (f + nd) (tvT v k)
    have e := h2 hk2
    show (thT sbitR snxtR f v k (2 * nd + sbitR sd (f + nd) (tvT v k)) (snxtR sd (f + nd) (tvT v k))).2 = _ ∧ Sim (thT sbitR snxtR f v k (2 * nd + sbitR sd (f + nd) (tvT v k)) (snxtR sd (f + nd) (tvT v k))).1 _
    rw [e]
    exact thT_sim f v k _ _ _ h1 hk
/-- the token that the specification reads -/
def smTok (s : DS × Bool) (a : Nat) : (DS × Bool) × TkN := thTok sbitR snxtR a 0 0 0 0 s
def tkOf (x y z : Nat) : TkN := ⟨1, 0, (y - 2 ^ 6) * 64 + (z - 2 ^ 6) + 1, x - 2 ^ 6 + 3⟩
theorem thTok_byte {σ : Type} {bit : σ → Nat → Nat → Nat} {nxt : σ → Nat → Nat → σ} {a k : Nat} {b d l : Int} {s : σ} (h : bit s a k = 0) : thTok bit nxt a k b d l s = ((thT bit nxt 1 b 8 1 (nxt s a k)).1, ⟨0, (thT bit nxt 1 b 8 1 (nxt s a k)).2 - 2 ^ 8, 0, 0⟩) := by
  unfold thTok; rw [if_pos h]
theorem thTok_copy {σ : Type} {bit : σ → Nat → Nat → Nat} {nxt : σ → Nat → Nat → σ} {a k : Nat} {b d l : Int} {s : σ} (h : bit s a k ≠ 0) : thTok bit nxt a k b d l s = ((thT bit nxt 400 ((d - 1).tmod 64) 6 1 (thT bit nxt 330 ((d - 1).tdiv 64) 6 1 (thT bit nxt 260 (l - 3) 6 1 (nxt s a k)).1).1).1, tkOf (thT bit nxt 260 (l - 3) 6 1 (nxt s a k)).2 (thT bit nxt 330 ((d - 1).tdiv 64) 6 1 (thT bit nxt 260 (l - 3) 6 1 (nxt s a k)).1).2 (thT bit nxt 400 ((d - 1).tmod 64) 6 1 (thT bit nxt 330 ((d - 1).tdiv 64) 6 1 (thT bit nxt 260 (l - 3) 6 1 (nxt s a k)).1).1).2) := by
  unfold thTok; rw [if_neg h]; rfl
theorem smTok_sim {sd sc : DS × Bool} (h : Sim sd sc) (a : Nat) (hk : (mkTok sc a).1.2 = true) : (smTok sd a).2 = (mkTok sc a).2 ∧ Sim (smTok sd a).1 (mkTok sc a).1 := by
  obtain ⟨h1, h2⟩ := sim_step h a 0
  by_cases hb : bitR sc a 0 = 0
  · have em : mkTok sc a = _ := thTok_byte hb
    rw [em] at hk ⊢
    simp only at hk
    have hk2 := thR_mono _ _ _ _ _ hk
    have es : smTok sd a = _ := thTok_byte ((h2 hk2).trans hb)
    obtain ⟨a1, a2⟩ := thT_sim 1 0 8 1 _ _ h1 hk
    rw [es]
    simp only
    exact ⟨by rw [a1], a2⟩
  · have em : mkTok sc a = _ := thTok_copy hb
    rw [em] at hk ⊢
    simp only at hk
    have hk4 := thR_mono _ _ _ _ _ hk
    have hk3 := thR_mono _ _ _ _ _ hk4
    have hk2 := thR_mono _ _ _ _ _ hk3
    have es : smTok sd a = _ := thTok_copy (fun c => hb ((h2 hk2).symm.trans c))
    obtain ⟨a1, a2⟩ := thT_sim 260 (0 - 3) 6 1 _ _ h1 hk3
    obtain ⟨b1, b2⟩ := thT_sim 330 ((0 - 1 : Int).tdiv 64) 6 1 _ _ a2 hk4
    obtain ⟨c1, c2⟩ := thT_sim 400 ((0 - 1 : Int).tmod 64) 6 1 _ _ b2 hk
    rw [es]
    simp only
    refine ⟨?_, c2⟩
    rw [a1, b1, c1]
theorem smTok_k (s : DS × Bool) (a : Nat) : (smTok s a).2.k < 2 := by
  unfold smTok thTok
  split
  · show (0 : Nat) < 2; decide
  · show (1 : Nat) < 2; decide
/-- what the specification makes of the tokens that it reads -/
noncomputable def srun (n : Nat) : Nat → DS × Bool → Nat → List Nat → Option (List Nat)
  | 0, s, _, o => if s.2 = true then none else some o
  | k + 1, s, a, o => if s.2 = true then none else if n ≤ o.length then some o else
      if (smTok s a).2.k = 0 then srun n k (smTok s a).1 0 (o ++ [(smTok s a).2.b]) else
      if (smTok s a).2.d ≤ o.length ∧ o.length + (smTok s a).2.l ≤ n then srun n k (smTok s a).1 1 (cpI (smTok s a).2.d o (smTok s a).2.l) else none
theorem srun_bad {n k a : Nat} {s : DS × Bool} {o : List Nat} (h : s.2 = true) : srun n k s a o = none := by
  cases k with
  | zero => unfold srun; rw [if_pos h]
  | succ k => unfold srun; rw [if_pos h]
theorem srun_end {n k a : Nat} {s : DS × Bool} {o : List Nat} (h : s.2 = false) (h2 : n ≤ o.length) : srun n k s a o = some o := by
  cases k with
  | zero => unfold srun; rw [if_neg (by rw [h]; decide)]
  | succ k => unfold srun; rw [if_neg (by rw [h]; decide), if_pos h2]
theorem srun_byte {n k a : Nat} {s : DS × Bool} {o : List Nat} (h : s.2 = false) (h2 : o.length < n) (h3 : (smTok s a).2.k = 0) : srun n (k + 1) s a o = srun n k (smTok s a).1 0 (o ++ [(smTok s a).2.b]) := by
  conv => lhs; unfold srun
  rw [if_neg (by rw [h]; decide), if_neg (by omega), if_pos h3]
theorem srun_copy {n k a : Nat} {s : DS × Bool} {o : List Nat} (h : s.2 = false) (h2 : o.length < n) (h3 : (smTok s a).2.k ≠ 0) (h4 : (smTok s a).2.d ≤ o.length) (h5 : o.length + (smTok s a).2.l ≤ n) : srun n (k + 1) s a o = srun n k (smTok s a).1 1 (cpI (smTok s a).2.d o (smTok s a).2.l) := by
  conv => lhs; unfold srun
  rw [if_neg (by rw [h]; decide), if_neg (by omega), if_neg h3, if_pos ⟨h4, h5⟩]
theorem srun_not {n k a : Nat} {s : DS × Bool} {o : List Nat} (h : s.2 = false) (h2 : o.length < n) (h3 : (smTok s a).2.k ≠ 0) (h4 : ¬ ((smTok s a).2.d ≤ o.length ∧ o.length + (smTok s a).2.l ≤ n)) : srun n (k + 1) s a o = none := by
  conv => lhs; unfold srun
  rw [if_neg (by rw [h]; decide), if_neg (by omega), if_neg h3, if_neg h4]
theorem srun_len {n : Nat} : ∀ (k : Nat) (s : DS × Bool) (a : Nat) (o o' : List Nat), o.length ≤ n → srun n k s a o = some o' → o'.length ≤ n
  | 0, s, a, o, o', h, e => by
    unfold srun at e
    split at e
    · cases e
    · cases e; exact h
  | k + 1, s, a, o, o', h, e => by
    unfold srun at e
    split at e
    · cases e
    · split at e
      · cases e; exact h
      · split at e
        · exact srun_len k _ _ _ _ (by rw [List.length_append]; show _ + 1 ≤ _; omega) e
        · split at e
          · rename_i hc
            exact srun_len k _ _ _ _ (by rw [cpI_len]; exact hc.2) e
          · cases e
theorem mkRun_len {n : Nat} : ∀ (k : Nat) (s : DS × Bool) (a : Nat) (o o' : List Nat), mkRun n k s a o = some o' → o.length ≤ o'.length
  | 0, s, a, o, o', e => by
    unfold mkRun at e
    cases e; exact Nat.le_refl _
  | k + 1, s, a, o, o', e => by
    by_cases hn : n ≤ o.length
    · rw [mkRun_enough hn] at e; cases e; exact Nat.le_refl _
    · cases hst : mkStep s a o with
      | none => rw [mkRun_none (by omega) hst] at e; cases e
      | some q =>
        obtain ⟨s1, a1, o1⟩ := q
        rw [mkRun_some (by omega) hst] at e
        have h1 := mkRun_len k _ _ _ _ e
        unfold mkStep at hst
        split at hst
        · rename_i hc
          injection hst with q1
          injection q1 with q2 q3
          injection q3 with q4 q5
          have := tkOut_more (t := ⟨((mkTok s a).2.k : Int), ((mkTok s a).2.b : Int), ((mkTok s a).2.d : Int), ((mkTok s a).2.l : Int)⟩) hc.2
          rw [q5] at this
          omega
        · cases hst
theorem srun_made {n : Nat} {dd : List Nat} (hdd : dd.length ≤ n) : ∀ (k : Nat) (sd sc : DS × Bool) (a : Nat) (o : List Nat), Sim sd sc → sc.2 = true → mkRun n k sc a o = some dd → n ≤ o.length + k → srun n k sd a o = some dd
  | 0, sd, sc, a, o, hs, hc, e, hk => by
    have h0 := (hs hc).1
    rw [mkRun_enough (by omega)] at e
    rw [srun_end (by rw [h0]) (by omega), e]
  | k + 1, sd, sc, a, o, hs, hc, e, hk => by
    have h0 := (hs hc).1
    have hf : sd.2 = false := by rw [h0]
    by_cases hn : n ≤ o.length
    · rw [mkRun_enough hn] at e
      rw [srun_end hf hn, e]
    · cases hst : mkStep sc a o with
      | none => rw [mkRun_none (by omega) hst] at e; cases e
      | some q =>
        obtain ⟨s1, a1, o1⟩ := q
        rw [mkRun_some (by omega) hst] at e
        have hlen := mkRun_len k _ _ _ _ e
        unfold mkStep at hst
        split at hst
        · rename_i hcc
          injection hst with q1
          injection q1 with q2 q3
          injection q3 with q4 q5
          have hmore := tkOut_more (t := ⟨((mkTok sc a).2.k : Int), ((mkTok sc a).2.b : Int), ((mkTok sc a).2.d : Int), ((mkTok sc a).2.l : Int)⟩) hcc.2
          rw [q5] at hmore
          obtain ⟨t1, t2⟩ := smTok_sim hs a hcc.1
          subst q2
          have htp := hcc.2
          have hk2 := mkTok_k sc a
          rw [← t1] at q4 q5 htp hk2
          obtain ⟨T, hT⟩ : ∃ T, T = (smTok sd a).2 := ⟨_, rfl⟩
          rw [← hT] at q4 q5 htp hk2
          by_cases h3 : T.k = 0
          · have eo : o1 = o ++ [T.b] := by rw [← q5]; unfold tkOut; rw [if_pos (by simp [h3])]; simp
            rw [srun_byte hf (by omega) (by rw [← hT]; exact h3), ← hT, ← eo]
            rw [h3] at q4
            subst q4
            exact srun_made hdd k _ _ 0 o1 t2 hcc.1 e (by omega)
          · have h31 : T.k = 1 := by omega
            obtain ⟨_, ⟨c1, _⟩ | ⟨c1, c2, c3, c4, c5, c6, c7⟩⟩ := htp
            · omega
            have eo : o1 = cpI T.d o T.l := by rw [← q5]; unfold tkOut; rw [if_neg (by simp [h31])]; simp
            have el : o1.length = o.length + T.l := by rw [eo, cpI_len]
            rw [srun_copy hf (by omega) (by rw [← hT]; omega) (by rw [← hT]; omega) (by rw [← hT]; omega), ← hT, ← eo]
            rw [h31] at q4
            subst q4
            exact srun_made hdd k _ _ 1 o1 t2 hcc.1 e (by omega)
        · cases hst
noncomputable def sunp (S : ByteArray) : Option ByteArray := open Classical in match numI S with
  | none => none
  | some (n, R) => if 4000 < n then none else if startOk R then (match srun n n (DS.start (code0 R) (bl (rest0 R)), false) 0 [] with
    | none => none
    | some o => if pckB (strL o) = S then some (strL o) else none) else none
theorem sunp_some {S d : ByteArray} (h : sunp S = some d) : d.size ≤ 4000 ∧ pckB d = S := by
  unfold sunp at h
  split at h
  · cases h
  · rename_i n R _
    split at h
    · cases h
    · split at h
      · split at h
        · cases h
        · rename_i o ho
          split at h
          · rename_i hc
            cases h
            have := srun_len n _ _ [] _ (Nat.zero_le _) ho
            exact ⟨by rw [strL_size]; omega, hc⟩
          · cases h
      · cases h
theorem sunp_pack {d : ByteArray} (hd : d.size ≤ 4000) : sunp (pckB d) = some d := by
  have h : num (pckB d) = some ((d.size : Int), (put d.size).length) := num_put d.size (by omega) (pckR d)
  have hext : (pckB d).extract (put d.size).length (pckB d).size = pckR d := ext_tail2 _ _
  have h2 := numI_some h (by omega)
  rw [hext, Int.toNat_natCast] at h2
  have hok := (choS_chOk hd).2
  have hes := enc_start (chF (choS d)) (choS d).length hok
  rw [chL_chF] at hes
  obtain ⟨hst, hAt⟩ := hes
  have hst' : startOk (pckR d) := hst
  have hm := made_pack hd
  unfold made at hm
  rw [if_pos hst'] at hm
  have hsim : Sim (DS.start (code0 (pckR d)) (bl (rest0 (pckR d))), false) (DS.start (code0 (pckR d)) (bl (rest0 (pckR d))), true) := fun _ => ⟨rfl, DS.start_fine (pt4_lt (bsOf_lt _) 0) (bl_lt _), hAt.lt⟩
  have hr := srun_made (n := d.size) (by rw [bytesL_len]; exact Nat.le_refl _) d.size _ _ 0 [] hsim rfl hm (by omega)
  unfold sunp
  rw [h2]
  simp only []
  rw [if_neg (by omega), if_pos hst', hr]
  simp only []
  rw [strL_bytes, if_pos rfl]
theorem sunp_unp (S : ByteArray) : sunp S = unp S := by
  cases h : unp S with
  | some d =>
    obtain ⟨h1, h2⟩ := unp_some h
    rw [← h2]; exact sunp_pack h1
  | none =>
    cases h2 : sunp S with
    | none => rfl
    | some d =>
      obtain ⟨a, b⟩ := sunp_some h2
      rw [← b, unp_pack a] at h; cases h
end Go.Proofs.Ytbkjcngehhdchaa

/-!   The specification's reader of ranges: one bit. -/
namespace Go.Proofs.Ytbkjcngehhdchaa
open Go.RowKit
set_option linter.unusedVariables false
set_option linter.unusedSimpArgs false
theorem hidS {p : Prop} (h : p) : Hid p := h
theorem addr0 (g x : Nat) : (⟨g, 0, none⟩ : Addr).add x = ⟨g, x, none⟩ := by unfold Addr.add; split <;> simp_all
/-- the reader in memory -/
structure SDR (w : World) (B g cd wd : Nat) (R : ByteArray) (bad : Bool) (gp c : Nat) (pr : Nat → Nat) : Prop where
  row : w.heap[g]? = some (.cells #[.int .u32 (cd : Int), .int .u32 (wd : Int), .string R, .bool bad, .slice (some ⟨gp, 0, none⟩) 512 c] 89 (0, 0))
  own : w.ownsRow B 2 1 (.slice (some ⟨gp, 0, none⟩) 512 c) 512 ((List.range 512).map fun j => .int .i64 (pr j : Int))
  gB : B ≤ g
def SDAt (w : World) (B g : Nat) (sb : DS × Bool) : Prop := ∃ R gp c, SDR w B g sb.1.code sb.1.width R sb.2 gp c sb.1.probs ∧ bl R = sb.1.rest
theorem SDR.lt {w : World} {B g cd wd gp c : Nat} {R : ByteArray} {bad : Bool} {pr : Nat → Nat} (h : SDR w B g cd wd R bad gp c pr) : g < w.heap.size := (Array.getElem?_eq_some_iff.1 h.row).1
theorem SDR.pn {w : World} {B g cd wd gp c : Nat} {R : ByteArray} {bad : Bool} {pr : Nat → Nat} (h : SDR w B g cd wd R bad gp c pr) : g ≠ gp := fun e => row_apartE (by decide) h.own h.row (by rw [e]; rfl)
theorem SDR.prow {w : World} {B g cd wd gp c : Nat} {R : ByteArray} {bad : Bool} {pr : Nat → Nat} (h : SDR w B g cd wd R bad gp c pr) : B ≤ gp ∧ ∃ cur, w.heap[gp]? = some (.cells cur 2 (0, 0)) := by
  obtain ⟨_, ⟨h0, _⟩ | ⟨g', cap, cur, h1, h2, h3, _⟩⟩ := h.own
  · cases h0
  · cases h1; exact ⟨h2, cur, h3⟩
theorem SDR.same {w w' : World} {B g cd wd gp c : Nat} {R : ByteArray} {bad : Bool} {pr : Nat → Nat} (h : SDR w B g cd wd R bad gp c pr) (h1 : w'.heap[g]? = w.heap[g]?) (h2 : w'.heap[gp]? = w.heap[gp]?) : SDR w' B g cd wd R bad gp c pr := by
  refine ⟨h1.trans h.row, ?_, h.gB⟩
  obtain ⟨hl, ⟨h0, _⟩ | ⟨g', cap, cur, q1, q2, q3, q4⟩⟩ := h.own
  · cases h0
  · cases q1; exact ⟨hl, Or.inr ⟨gp, c, cur, rfl, q2, h2.trans q3, q4⟩⟩
theorem SDR.setC {w : World} {B g cd wd gp c : Nat} {R : ByteArray} {bad : Bool} {pr : Nat → Nat} (h : SDR w B g cd wd R bad gp c pr) (n : Nat) : SDR (w.setCell ⟨g, 0, none⟩ (.int .u32 (n : Int))) B g n wd R bad gp c pr :=
  ⟨heap_setCell_same _ _ _ _ _ _ h.row, h.own.kept (grownBy_setC _ g 0 _) (Or.inr (fun e => row_apartE (by decide) h.own h.row e.symm)), h.gB⟩
theorem SDR.setW {w : World} {B g cd wd gp c : Nat} {R : ByteArray} {bad : Bool} {pr : Nat → Nat} (h : SDR w B g cd wd R bad gp c pr) (n : Nat) : SDR (w.setCell ⟨g, 1, none⟩ (.int .u32 (n : Int))) B g cd n R bad gp c pr :=
  ⟨heap_setCell_same _ _ _ _ _ _ h.row, h.own.kept (grownBy_setC _ g 1 _) (Or.inr (fun e => row_apartE (by decide) h.own h.row e.symm)), h.gB⟩
theorem SDR.setR {w : World} {B g cd wd gp c : Nat} {R : ByteArray} {bad : Bool} {pr : Nat → Nat} (h : SDR w B g cd wd R bad gp c pr) (Q : ByteArray) : SDR (w.setCell ⟨g, 2, none⟩ (.string Q)) B g cd wd Q bad gp c pr :=
  ⟨heap_setCell_same _ _ _ _ _ _ h.row, h.own.kept (grownBy_setC _ g 2 _) (Or.inr (fun e => row_apartE (by decide) h.own h.row e.symm)), h.gB⟩
theorem SDR.setB {w : World} {B g cd wd gp c : Nat} {R : ByteArray} {bad : Bool} {pr : Nat → Nat} (h : SDR w B g cd wd R bad gp c pr) (b : Bool) : SDR (w.setCell ⟨g, 3, none⟩ (.bool b)) B g cd wd R b gp c pr :=
  ⟨heap_setCell_same _ _ _ _ _ _ h.row, h.own.kept (grownBy_setC _ g 3 _) (Or.inr (fun e => row_apartE (by decide) h.own h.row e.symm)), h.gB⟩
theorem SDR.mv {w : World} {B g cd wd gp c : Nat} {R : ByteArray} {bad : Bool} {pr : Nat → Nat} (h : SDR w B g cd wd R bad gp c pr) (x n : Nat) : SDR (w.setCell ⟨gp, x, none⟩ (.int .i64 (n : Int))) B g cd wd R bad gp c (fun j => if j = x then n else pr j) := by
  refine ⟨(heap_setCell_other _ _ _ _ h.pn).trans h.row, ?_, h.gB⟩
  have h4 := own_write (k := x) (u := .int .i64 (n : Int)) h.own
  rw [range_set] at h4
  have e : (fun j => if j = x then Value.int .i64 (n : Int) else .int .i64 (pr j : Int)) = fun j => Value.int .i64 (((if j = x then n else pr j) : Nat) : Int) := by
    funext j; split <;> rfl
  rw [e] at h4
  exact h4
theorem SDR.drew {w : World} {B g cd wd gp c : Nat} {R : ByteArray} {bad : Bool} {pr : Nat → Nat} (h : SDR w B g cd wd R bad gp c pr) : SDR w.drew B g cd wd R bad gp c pr := ⟨h.row, h.own, h.gB⟩
/-- what the reader leaves as it is -/
structure FRS (w W : World) (B g : Nat) : Prop where
  below : Below B w W
  keep : ∀ (k : Nat) (cs : Array Value) (t : TypeId) (m : Nat × Nat), w.heap[k]? = some (.cells cs t m) → k ≠ g → t ≠ 2 → W.heap[k]? = some (.cells cs t m)
theorem FRS.refl (w : World) (B g : Nat) : FRS w w B g := ⟨Below.refl _ _, fun _ _ _ _ h _ _ => h⟩
theorem FRS.trans {a b c : World} {B g : Nat} (h : FRS a b B g) (k : FRS b c B g) : FRS a c B g := ⟨h.below.trans k.below, fun i cs t m q1 q2 q3 => k.keep i cs t m (h.keep i cs t m q1 q2 q3) q2 q3⟩
theorem FRS.drew {w W : World} {B g : Nat} (h : FRS w W B g) : FRS w W.drew B g := ⟨h.below.drew, h.keep⟩
theorem FRS.set {w W : World} {B g : Nat} (h : FRS w W B g) (hg : B ≤ g) (k : Nat) (u : Value) : FRS w (W.setCell ⟨g, k, none⟩ u) B g :=
  ⟨h.below.setCell (p := ⟨g, k, none⟩) hg _, fun i cs t m q1 q2 q3 => (heap_setCell_other _ _ _ _ q2).trans (h.keep i cs t m q1 q2 q3)⟩
theorem FRS.setI {w W : World} {B g gp : Nat} (h : FRS w W B g) (hp : B ≤ gp) {cs0 : Array Value} {m0 : Nat × Nat} (hg : W.heap[gp]? = some (.cells cs0 2 m0)) (k : Nat) (u : Value) : FRS w (W.setCell ⟨gp, k, none⟩ u) B g :=
  ⟨h.below.setCell (p := ⟨gp, k, none⟩) hp _, fun i cs t m q1 q2 q3 => by
    have q4 := h.keep i cs t m q1 q2 q3
    by_cases e : i = gp
    · subst e; rw [hg] at q4; injection q4 with q4; injection q4 with _ q5 _; exact absurd q5.symm q3
    · rw [heap_setCell_other _ _ _ _ (by show i ≠ gp; exact e)]; exact q4⟩
def restS (g : Nat) (w : World) : Nat := match w.cell? ⟨g, 2, none⟩ with | some (.string r) => r.size | _ => 0
theorem restS_eq {w : World} {g : Nat} {r : ByteArray} (h : w.cell? ⟨g, 2, none⟩ = some (.string r)) : restS g w = r.size := by unfold restS; rw [h]
theorem bound_wordsD {s : DS} (hs : s.Fine) (x : Nat) : ∃ q p m : Nat, q = s.width / 2048 ∧ p = s.probs x ∧ m = s.bd x ∧ IntKind.u32.wrap (p : Int) = (p : Int) ∧ IntKind.u32.wrap ((q : Int) * (p : Int)) = (m : Int) ∧ (s.width : Int) / 2048 = (q : Int) ∧ m < 4294967296 := by
  have hw := hs.w
  have hp := hs.p x
  refine ⟨_, _, _, rfl, rfl, rfl, by rw [IntKind.wrap_u32]; omega, ?_, by omega, ?_⟩
  · have hm : s.width / 2048 * s.probs x ≤ 2097151 * 2047 := Nat.mul_le_mul (by omega) hp.2
    have e : ((s.width / 2048 : Nat) : Int) * (s.probs x : Int) = ((s.width / 2048 * s.probs x : Nat) : Int) := by simp
    rw [e, IntKind.wrap_u32]
    unfold DS.bd
    omega
  · have hm : s.width / 2048 * s.probs x ≤ 2097151 * 2047 := Nat.mul_le_mul (by omega) hp.2
    unfold DS.bd
    omega
set_option maxRecDepth 100000 in
set_option maxHeartbeats 4000000 in
theorem sdtake_any {w : World} {B g x : Nat} {sb : DS × Bool} (hs : sb.1.Fine) (hD : SDAt w B g sb) (hx : x < 512) :
    Calls Try.prog 61 #[.pointer (some ⟨g, 0, none⟩), .int .i64 (x : Int)] w fun e w' => e = .returned (.int .i64 ((stell sb x : Nat) : Int)) ∧ SDAt w' B g (sgo sb x) ∧ FRS w w' B g := by
  obtain ⟨s, bad⟩ := sb
  obtain ⟨R, gp, c, hR, hr⟩ := hD
  simp only at hs hR hr
  have HR := hidS hR
  have k3 : w.cell? ⟨g, 3, none⟩ = some (.bool bad) := cell_of_row _ _ _ _ _ _ hR.row
  cases bad with
  | true =>
    have HF : Hid (SDAt w B g (sgo (s, true) x) ∧ FRS w w B g) := by
      have e : sgo (s, true) x = (s, true) := by unfold sgo; rw [if_pos rfl]
      rw [e]
      exact ⟨⟨R, gp, c, hR, hr⟩, FRS.refl _ _ _⟩
    have e0 : stell (s, true) x = 0 := by unfold stell; rw [if_pos rfl]
    rw [e0]
    clear hR hr hs
    go_enter Try.func61, Try.ntmps61
    go_wp2_with fail
    go_ret
    exact ⟨rfl, HF.out⟩
  | false =>
    obtain ⟨q, p, m, hq, hpp, hm, f1, f2, f3, f4⟩ := bound_wordsD hs x
    have hble := DS.bd_le hs x
    rw [← hm] at hble
    have hw2 := hs.w
    have hc2 := hs.c
    have hpr := hs.p x
    rw [← hpp] at hpr
    obtain ⟨N, hN⟩ : ∃ N, N = snx s x := ⟨_, rfl⟩
    have HGO : Hid (∀ w' R' b, SDR w' B g N.2.2.1 N.2.1 R' b gp c (s.pr x) → b = !N.1 → bl R' = N.2.2.2 → FRS w w' B g → SDAt w' B g (sgo (s, false) x) ∧ FRS w w' B g) := fun w' R' b h1 hb h2 h3 => by
      have e : sgo (s, false) x = (⟨N.2.1, N.2.2.1, s.pr x, N.2.2.2⟩, !N.1) := by unfold sgo; rw [if_neg (by simp), hN]
      rw [e]
      subst hb
      exact ⟨⟨R', gp, c, h1, h2⟩, h3⟩
    have HTN : Hid (N.1 = false → stell (s, false) x = 0) := fun h => by unfold stell; rw [if_neg (by simp), ← hN, if_neg (by rw [h]; decide)]
    have HTY : Hid (N.1 = true → stell (s, false) x = s.bit x) := fun h => by unfold stell; rw [if_neg (by simp), ← hN, if_pos h]
    have HN0 : Hid (s.code < m → s.bit x = 0 ∧ snrm m s.code (bl R) = N ∧ s.pr x = fun j => if j = x then movP (s.probs x) 0 else s.probs j) := fun h => by
      have hb : s.bit x = 0 := by unfold DS.bit; rw [← hm, if_pos h]
      refine ⟨hb, ?_, ?_⟩
      · rw [hN]; unfold snx DS.w1 DS.c1; rw [← hm, if_pos h, if_pos h, hr]
      · funext j; unfold DS.pr; rw [hb]
    have HN1 : Hid (¬ s.code < m → s.bit x = 1 ∧ snrm (s.width - m) (s.code - m) (bl R) = N ∧ s.pr x = fun j => if j = x then movP (s.probs x) 1 else s.probs j) := fun h => by
      have hb : s.bit x = 1 := by unfold DS.bit; rw [← hm, if_neg h]
      refine ⟨hb, ?_, ?_⟩
      · rw [hN]; unfold snx DS.w1 DS.c1; rw [← hm, if_neg h, if_neg h, hr]
      · funext j; unfold DS.pr; rw [hb]
    rw [← hpp] at HN0 HN1
    generalize stell (s, false) x = tl at HTN HTY ⊢
    generalize s.bit x = bt at HTY HN0 HN1
    generalize s.pr x = pr' at HGO HN0 HN1
    generalize sgo (s, false) x = sg at HGO ⊢
    have HPX : Hid (1 ≤ p ∧ p ≤ 2047 ∧ p = s.probs x) := ⟨hpr.1, hpr.2, hpp⟩
    obtain ⟨wd, cd, pr, rs⟩ := s
    simp only at hR hw2 hc2 hble HN0 HN1 HPX HR f3
    have HXX : Hid (x < 512) := hx
    have hxI : (x : Int) < 512 := by omega
    have k0 : w.cell? ⟨g, 0, none⟩ = some (.int .u32 (cd : Int)) := cell_of_row _ _ _ _ _ _ hR.row
    have k1 : w.cell? ⟨g, 1, none⟩ = some (.int .u32 (wd : Int)) := cell_of_row _ _ _ _ _ _ hR.row
    have k4 : w.cell? ⟨g, 4, none⟩ = some (.slice (some ⟨gp, 0, none⟩) 512 c) := cell_of_row _ _ _ _ _ _ hR.row
    have kp : w.cell? ⟨gp, x, none⟩ = some (.int .i64 (p : Int)) := by
      have h := hR.own.cells (g := gp) rfl x (.int .i64 (p : Int)) (by rw [List.getElem?_map, List.getElem?_range hx, HPX.out.2.2]; rfl)
      rw [addr0] at h
      exact h
    have z0 := frozen_of_row w g 0 _ _ hR.row
    have z1 := frozen_of_row w g 1 _ _ hR.row
    clear hR hr hN hq hpp hm hs hpr
    by_cases hlt : cd < m
    · have hltI : (cd : Int) < (m : Int) := by omega
      obtain ⟨W, hW⟩ : ∃ W, W = w.setCell ⟨g, 1, none⟩ (.int .u32 (m : Int)) := ⟨_, rfl⟩
      have hR1 : SDR W B g cd m R false gp c pr := by rw [hW]; exact HR.out.setW m
      have hF1 : FRS w W B g := by rw [hW]; exact (FRS.refl w B g).set HR.out.gB 1 _
      have HR1 := hidS hR1
      have HF1 := hidS hF1
      clear hR1 hF1
      go_enter Try.func61, Try.ntmps61
      go_wp2_with fail
      rw [← hW]
      clear hW k0 k1 k3 k4 kp z0 z1
      obtain ⟨n, hn⟩ : ∃ n, n = movP p 0 := ⟨_, rfl⟩
      have HNN : Hid (n = movP p 0) := hn
      have HMV : Hid (∀ w, Calls Try.prog 84 #[.int .i64 (p : Int), .int .i64 0] w fun e w' => e = .returned (.int .i64 (n : Int)) ∧ w' = w) := fun w => by
        have h1 := HPX.out
        have h2 := smoved_in (p : Int) 0 w (by omega) (by omega) (Or.inl rfl)
        have h3 : movI (p : Int) 0 = (n : Int) := by rw [hn]; unfold movP; rw [mov_zero (by omega) (by omega), if_pos rfl]; omega
        rw [h3] at h2; exact h2
      clear hn
      obtain ⟨S, hSS⟩ : ∃ S : World → Prop, S = fun w' => w'.cell? ⟨g, 4, none⟩ = some (.slice (some ⟨gp, 0, none⟩) 512 c) := ⟨_, rfl⟩
      have hSd : S W.drew := by rw [hSS]; exact cell_of_row W.drew _ _ _ _ _ HR1.out.row
      have HX : Hid (∀ w', S w' → w'.cell? ⟨g, 4, none⟩ = some (.slice (some ⟨gp, 0, none⟩) 512 c)) := fun w' h => by rw [hSS] at h; exact h
      have HSS : Hid (S = fun w' => w'.cell? ⟨g, 4, none⟩ = some (.slice (some ⟨gp, 0, none⟩) 512 c)) := hSS
      clear hSS
      refine wp_region_held (S := S) (by kernel_rfl) ?_
      change wpAnyH _ _ _ _ _ _ _ _ (World.drew _)
      refine wpAnyH_take (i := 0) (v := .pointer (some ⟨g, 0, none⟩)) rfl (by kernel_rfl) (by kernel_rfl) (by kernel_rfl) (fun _ _ _ h => h) (Or.inl ⟨by rfl, by intro w' hS'; go_simp <;> (first | omega | (rw [IntKind.wrap_i64]; omega) | (rw [IntKind.wrap_u64]; omega) | (rw [IntKind.wrap_u32]; omega) | (rw [Int.tmod_eq_emod_of_nonneg (by omega)]))⟩) hSd ?_
      (try simp only [List.getElem_toArray, List.getElem_cons_succ, List.getElem_cons_zero, Act.put, List.setIfInBounds_toArray, List.set_cons_zero, List.set_cons_succ])
      refine wpAnyH_take (i := 1) (v := .pointer (some ⟨g, 0, none⟩)) rfl (by kernel_rfl) (by kernel_rfl) (by kernel_rfl) (fun _ _ _ h => h) (Or.inl ⟨by rfl, by intro w' hS'; go_simp <;> (first | omega | (rw [IntKind.wrap_i64]; omega) | (rw [IntKind.wrap_u64]; omega) | (rw [IntKind.wrap_u32]; omega) | (rw [Int.tmod_eq_emod_of_nonneg (by omega)]))⟩) hSd ?_
      (try simp only [List.getElem_toArray, List.getElem_cons_succ, List.getElem_cons_zero, Act.put, List.setIfInBounds_toArray, List.set_cons_zero, List.set_cons_succ])
      refine wpAnyH_take (i := 2) (v := .pointer (some ⟨g, 4, none⟩)) rfl (by kernel_rfl) (by kernel_rfl) (by kernel_rfl) (fun _ _ _ h => h) (Or.inl ⟨by rfl, by intro w' hS'; go_simp <;> (first | omega | (rw [IntKind.wrap_i64]; omega) | (rw [IntKind.wrap_u64]; omega) | (rw [IntKind.wrap_u32]; omega) | (rw [Int.tmod_eq_emod_of_nonneg (by omega)]))⟩) hSd ?_
      (try simp only [List.getElem_toArray, List.getElem_cons_succ, List.getElem_cons_zero, Act.put, List.setIfInBounds_toArray, List.set_cons_zero, List.set_cons_succ])
      refine wpAnyH_take (i := 3) (v := .slice (some ⟨gp, 0, none⟩) 512 c) rfl (by kernel_rfl) (by kernel_rfl) (by kernel_rfl) (fun _ _ _ h => h) (Or.inl ⟨by rfl, by intro w' hS'; have k5 := HX.out w' hS'; go_simp <;> (first | omega | (rw [IntKind.wrap_i64]; omega) | (rw [IntKind.wrap_u64]; omega) | (rw [IntKind.wrap_u32]; omega) | (rw [Int.tmod_eq_emod_of_nonneg (by omega)]))⟩) hSd ?_
      (try simp only [List.getElem_toArray, List.getElem_cons_succ, List.getElem_cons_zero, Act.put, List.setIfInBounds_toArray, List.set_cons_zero, List.set_cons_succ])
      refine wpAnyH_take (i := 4) (v := .int .i64 (x : Int)) rfl (by kernel_rfl) (by kernel_rfl) (by kernel_rfl) (fun _ _ _ h => h) (Or.inl ⟨by rfl, by intro w' hS'; go_simp <;> (first | omega | (rw [IntKind.wrap_i64]; omega) | (rw [IntKind.wrap_u64]; omega) | (rw [IntKind.wrap_u32]; omega) | (rw [Int.tmod_eq_emod_of_nonneg (by omega)]))⟩) hSd ?_
      (try simp only [List.getElem_toArray, List.getElem_cons_succ, List.getElem_cons_zero, Act.put, List.setIfInBounds_toArray, List.set_cons_zero, List.set_cons_succ])
      refine wpAnyH_take (i := 5) (v := .int .i64 (p : Int)) rfl (by kernel_rfl) (by kernel_rfl) (by kernel_rfl) (fun _ _ _ h => h) (Or.inl ⟨by rfl, by intro w' hS'; go_simp <;> (first | omega | (rw [IntKind.wrap_i64]; omega) | (rw [IntKind.wrap_u64]; omega) | (rw [IntKind.wrap_u32]; omega) | (rw [Int.tmod_eq_emod_of_nonneg (by omega)]))⟩) hSd ?_
      (try simp only [List.getElem_toArray, List.getElem_cons_succ, List.getElem_cons_zero, Act.put, List.setIfInBounds_toArray, List.set_cons_zero, List.set_cons_succ])
      refine wpAnyH_take (i := 6) (v := .int .i64 0) rfl (by kernel_rfl) (by kernel_rfl) (by kernel_rfl) (fun _ _ _ h => h) (Or.inl ⟨by rfl, by intro w' hS'; go_simp <;> (first | omega | (rw [IntKind.wrap_i64]; omega) | (rw [IntKind.wrap_u64]; omega) | (rw [IntKind.wrap_u32]; omega) | (rw [Int.tmod_eq_emod_of_nonneg (by omega)]))⟩) hSd ?_
      (try simp only [List.getElem_toArray, List.getElem_cons_succ, List.getElem_cons_zero, Act.put, List.setIfInBounds_toArray, List.set_cons_zero, List.set_cons_succ])
      refine held_stepS (i := 7) (by kernel_rfl) rfl (by rfl) ?_
      go_simp
      refine (HMV.out W.drew).mono ?_
      rintro e w5 ⟨rfl, rfl⟩
      refine ⟨hSd, ?_⟩
      (try simp only [List.getElem_toArray, List.getElem_cons_succ, List.getElem_cons_zero, Act.put, List.setIfInBounds_toArray, List.set_cons_zero, List.set_cons_succ])
      refine wpAnyH_take (i := 8) (v := .pointer (some ⟨gp, x, none⟩)) rfl (by kernel_rfl) (by kernel_rfl) (by kernel_rfl) (fun _ _ _ h => h) (Or.inl ⟨by rfl, by intro w' hS'; go_simp <;> (first | omega | (rw [IntKind.wrap_i64]; omega) | (rw [IntKind.wrap_u64]; omega) | (rw [IntKind.wrap_u32]; omega) | (rw [Int.tmod_eq_emod_of_nonneg (by omega)]))⟩) hSd ?_
      (try simp only [List.getElem_toArray, List.getElem_cons_succ, List.getElem_cons_zero, Act.put, List.setIfInBounds_toArray, List.set_cons_zero, List.set_cons_succ])
      obtain ⟨hpB, cur, hgr⟩ := HR1.out.prow
      have c5 : W.drew.cell? ⟨gp, x, none⟩ = some (.int .i64 (p : Int)) := by
        have h := HR1.out.own.cells (g := gp) rfl x (.int .i64 (p : Int)) (by rw [List.getElem?_map, List.getElem?_range HXX.out, HPX.out.2.2]; rfl)
        rw [addr0] at h
        exact h
      have z5 := frozen_of_row W.drew gp x _ _ hgr
      obtain ⟨hbt, hnr, hprr⟩ := HN0.out (by first | exact hlt | omega)
      have hR5 : SDR (W.setCell ⟨gp, x, none⟩ (.int .i64 (n : Int))).drew B g cd m R false gp c pr' := by
        have h := (HR1.out.mv x n).drew
        rw [hprr, ← HNN.out]; exact h
      have hF5 : FRS w (W.setCell ⟨gp, x, none⟩ (.int .i64 (n : Int))).drew B g := (HF1.out.setI hpB hgr x _).drew
      have HR5 := hidS hR5
      have HF5 := hidS hF5
      have HBT : Hid (bt = 0) := hbt
      have HNR : Hid (snrm m cd (bl R) = N) := hnr
      have HBD : Hid (cd < 4294967296 ∧ m < 4294967296) := by exact ⟨by omega, by omega⟩
      clear hgr hR5 hF5 hbt hnr hprr HN0 HN1
      refine held_stepS (i := 9) (by kernel_rfl) rfl (by rfl) ?_
      go_simp
      refine ⟨by rw [HSS.out]; exact cell_of_row _ _ _ _ _ _ HR5.out.row, ?_⟩
      (try simp only [List.getElem_toArray, List.getElem_cons_succ, List.getElem_cons_zero, Act.put, List.setIfInBounds_toArray, List.set_cons_zero, List.set_cons_succ])
      refine wpAnyH_done (by kernel_rfl) ?_ _
      clear c5 z5 hSd HX HSS HMV HR1 HF1 hlt hltI f1 f2 f3 f4 hble hw2 hc2
      go_wp2_with fail
      go_loopw [] (fun wr => ∃ (cd2 wd2 : Nat) (R2 : ByteArray), Hid (SDR wr B g cd2 wd2 R2 false gp c pr') ∧ wd2 < 4294967296 ∧ cd2 < 4294967296 ∧ Hid (snrm wd2 cd2 (bl R2) = N) ∧ Hid (FRS w wr B g)) (fun wr => restS g wr)
      case atStart => exact ⟨cd, m, R, HR5, HBD.out.2, HBD.out.1, HNR, HF5⟩
      case round =>
        clear HR5 HF5 HNR HBD
        obtain ⟨cd2, wd2, R2, HE, hw2, hc2, HNR, HF⟩ := hrel
        have y1 : wr.cell? ⟨g, 1, none⟩ = some (.int .u32 (wd2 : Int)) := cell_of_row _ _ _ _ _ _ HE.out.row
        have y2 : wr.cell? ⟨g, 2, none⟩ = some (.string R2) := cell_of_row _ _ _ _ _ _ HE.out.row
        have y3 : wr.cell? ⟨g, 3, none⟩ = some (.bool false) := cell_of_row _ _ _ _ _ _ HE.out.row
        have HMW : Hid (restS g wr = R2.size) := restS_eq y2
        by_cases hwl : wd2 < 16777216
        · have hwlI : (wd2 : Int) < 16777216 := by omega
          by_cases hr0 : R2.size = 0
          · have hte : R2.toList.isEmpty = true := by rw [Lib.toList_data]; have h := Lib.size_eq R2; rw [hr0] at h; rw [List.length_eq_zero_iff.1 h.symm]; rfl
            have hn := HNR.out
            rw [bl_nil hr0, snrm_end hwl] at hn
            obtain rfl := HTN.out (by rw [← hn])
            have z3 := frozen_of_row wr g 3 _ _ HE.out.row
            have HFIN : Hid (SDAt (wr.setCell ⟨g, 3, none⟩ (.bool true)) B g sg ∧ FRS w (wr.setCell ⟨g, 3, none⟩ (.bool true)) B g) := HGO.out _ R2 true (by rw [← hn]; exact HE.out.setB true) (by rw [← hn]; rfl) (by rw [← hn, bl_nil hr0]) (HF.out.set HE.out.gB 3 _)
            clear hn HGO HNR HE HF HTN HTY HBT hr0
            go_wp2_with fail
            go_ret
            exact ⟨rfl, HFIN.out⟩
          · have hr1 : 0 < R2.size := by omega
            have hr1I : (0 : Int) < (R2.size : Int) := by omega
            have hr2I : (1 : Int) ≤ (R2.size : Int) := by omega
            have hte : R2.toList.isEmpty = false := by
              rw [Lib.toList_data]
              cases h : R2.data.toList with
              | nil =>
                have h2 : R2.size = 0 := by rw [Lib.size_eq, h]; rfl
                omega
              | cons _ _ => rfl
            obtain ⟨b1, hb1⟩ : ∃ b1 : Nat, b1 = R2[0].toNat := ⟨_, rfl⟩
            have hb256 : b1 < 256 := by rw [hb1]; exact UInt8.toNat_lt _
            have hb1I : ((R2[0].toNat : Nat) : Int) = (b1 : Int) := by rw [hb1]
            obtain ⟨wd3, hwd3⟩ : ∃ wd3, wd3 = wd2 * 256 := ⟨_, rfl⟩
            obtain ⟨cc, hcc⟩ : ∃ cc, cc = cd2 * 256 % 4294967296 := ⟨_, rfl⟩
            obtain ⟨cd3, hcd3⟩ : ∃ cd3, cd3 = (cd2 * 256 + b1) % 4294967296 := ⟨_, rfl⟩
            have hn := HNR.out
            rw [bl_cons hr1, snrm_step hwl, ← hb1, ← hcd3, ← hwd3] at hn
            have HNR2 : Hid (snrm wd3 cd3 (bl (R2.extract 1 R2.size)) = N) := hn
            have f1 : IntKind.u32.wrap ((wd2 : Int) * 256) = (wd3 : Int) := by rw [IntKind.wrap_u32]; omega
            have f2 : IntKind.u32.wrap ((cd2 : Int) * 256) = (cc : Int) := by rw [IntKind.wrap_u32]; omega
            have f3 : bits .or .u32 (cc : Int) (b1 : Int) = (cd3 : Int) := by
              have h := or_byte (cd2 % 16777216) b1 (by omega) hb256
              have e1 : ((cd2 % 16777216 : Nat) : Int) * 256 = (cc : Int) := by omega
              rw [e1] at h
              rw [h]; omega
            have f4 : IntKind.u32.wrap (b1 : Int) = (b1 : Int) := by rw [IntKind.wrap_u32]; omega
            have hw3b : wd3 < 4294967296 := by omega
            have hc3b : cd3 < 4294967296 := by omega
            have z1 := frozen_of_row wr g 1 _ _ HE.out.row
            obtain ⟨W2, hW2⟩ : ∃ W2, W2 = wr.setCell ⟨g, 1, none⟩ (.int .u32 (wd3 : Int)) := ⟨_, rfl⟩
            have hE2 : SDR W2 B g cd2 wd3 R2 false gp c pr' := by rw [hW2]; exact HE.out.setW wd3
            have hF2 : FRS w W2 B g := by rw [hW2]; exact HF.out.set HE.out.gB 1 _
            have HE2 := hidS hE2
            have HF2 := hidS hF2
            clear hE2 hF2 hn HNR HE HF hwd3 hcc hcd3 hb1 hr0 hwl
            go_wp2_with fail
            rw [← hW2]
            clear hW2 y1 y2 y3 z1
            have v0 : W2.cell? ⟨g, 0, none⟩ = some (.int .u32 (cd2 : Int)) := cell_of_row _ _ _ _ _ _ HE2.out.row
            have v2 : W2.cell? ⟨g, 2, none⟩ = some (.string R2) := cell_of_row _ _ _ _ _ _ HE2.out.row
            have w0 := frozen_of_row W2 g 0 _ _ HE2.out.row
            go_region
            obtain ⟨W3, hW3⟩ : ∃ W3, W3 = (W2.setCell ⟨g, 0, none⟩ (.int .u32 (cd3 : Int))).drew := ⟨_, rfl⟩
            have hE3 : SDR W3 B g cd3 wd3 R2 false gp c pr' := by rw [hW3]; exact (HE2.out.setC cd3).drew
            have hF3 : FRS w W3 B g := by rw [hW3]; exact (HF2.out.set HE2.out.gB 0 _).drew
            have HE3 := hidS hE3
            have HF3 := hidS hF3
            rw [← hW3]
            clear hE3 hF3 hW3 HE2 HF2 v0 v2 w0 f1 f2 f3 f4 hte hb1I
            have u2 : W3.cell? ⟨g, 2, none⟩ = some (.string R2) := cell_of_row _ _ _ _ _ _ HE3.out.row
            have q2 := frozen_of_row W3 g 2 _ _ HE3.out.row
            go_wp2_with fail
            go_roundw
            case rel => exact ⟨cd3, wd3, R2.extract 1 R2.size, HE3.out.setR _, hw3b, hc3b, HNR2, HF3.out.set HE3.out.gB 2 _⟩
            case measure =>
              rw [HMW.out]
              have h2 := HE3.out.setR (R2.extract 1 R2.size)
              have h3 := restS_eq (cell_of_row _ g 2 _ _ _ h2.row)
              rw [h3, ByteArray.size_extract]
              omega
        · have hn := HNR.out
          rw [snrm_done (by omega)] at hn
          obtain rfl := HTY.out (by rw [← hn])
          have hwlI : ¬ (wd2 : Int) < 16777216 := by omega
          have HFIN : Hid (SDAt wr B g sg ∧ FRS w wr B g) := HGO.out wr R2 false (by rw [← hn]; exact HE.out) (by rw [← hn]; rfl) (by rw [← hn]) HF.out
          have HBT2 := HBT.out
          subst HBT2
          clear hn HGO HNR HE HF HTN HTY hwl
          go_wp2_with fail
          go_ret
          exact ⟨rfl, HFIN.out⟩
    · have hltI : ¬ (cd : Int) < (m : Int) := by omega
      obtain ⟨cd1, hcd1⟩ : ∃ cd1, cd1 = cd - m := ⟨_, rfl⟩
      obtain ⟨wd1, hwd1⟩ : ∃ wd1, wd1 = wd - m := ⟨_, rfl⟩
      have g1 : IntKind.u32.wrap ((cd : Int) - (m : Int)) = (cd1 : Int) := by rw [IntKind.wrap_u32]; omega
      have g2 : IntKind.u32.wrap ((wd : Int) - (m : Int)) = (wd1 : Int) := by rw [IntKind.wrap_u32]; omega
      obtain ⟨W, hW⟩ : ∃ W, W = (w.setCell ⟨g, 0, none⟩ (.int .u32 (cd1 : Int))).setCell ⟨g, 1, none⟩ (.int .u32 (wd1 : Int)) := ⟨_, rfl⟩
      have hR1 : SDR W B g cd1 wd1 R false gp c pr := by rw [hW]; exact (HR.out.setC cd1).setW wd1
      have hF1 : FRS w W B g := by rw [hW]; exact ((FRS.refl w B g).set HR.out.gB 0 _).set HR.out.gB 1 _
      have HR1 := hidS hR1
      have HF1 := hidS hF1
      have HCW : Hid (cd1 = cd - m ∧ wd1 = wd - m) := ⟨hcd1, hwd1⟩
      clear hR1 hF1 hcd1 hwd1
      go_enter Try.func61, Try.ntmps61
      go_wp2_with fail
      rw [← hW]
      clear hW k0 k1 k3 k4 kp z0 z1 g1 g2
      obtain ⟨n, hn⟩ : ∃ n, n = movP p 1 := ⟨_, rfl⟩
      have HNN : Hid (n = movP p 1) := hn
      have HMV : Hid (∀ w, Calls Try.prog 84 #[.int .i64 (p : Int), .int .i64 1] w fun e w' => e = .returned (.int .i64 (n : Int)) ∧ w' = w) := fun w => by
        have h1 := HPX.out
        have h2 := smoved_in (p : Int) 1 w (by omega) (by omega) (Or.inr rfl)
        have h3 : movI (p : Int) 1 = (n : Int) := by rw [hn]; unfold movP; rw [mov_one (by omega) (by omega), if_neg (by decide)]; omega
        rw [h3] at h2; exact h2
      clear hn
      obtain ⟨S, hSS⟩ : ∃ S : World → Prop, S = fun w' => w'.cell? ⟨g, 4, none⟩ = some (.slice (some ⟨gp, 0, none⟩) 512 c) := ⟨_, rfl⟩
      have hSd : S W.drew := by rw [hSS]; exact cell_of_row W.drew _ _ _ _ _ HR1.out.row
      have HX : Hid (∀ w', S w' → w'.cell? ⟨g, 4, none⟩ = some (.slice (some ⟨gp, 0, none⟩) 512 c)) := fun w' h => by rw [hSS] at h; exact h
      have HSS : Hid (S = fun w' => w'.cell? ⟨g, 4, none⟩ = some (.slice (some ⟨gp, 0, none⟩) 512 c)) := hSS
      clear hSS
      refine wp_region_held (S := S) (by kernel_rfl) ?_
      change wpAnyH _ _ _ _ _ _ _ _ (World.drew _)
      refine wpAnyH_take (i := 0) (v := .pointer (some ⟨g, 0, none⟩)) rfl (by kernel_rfl) (by kernel_rfl) (by kernel_rfl) (fun _ _ _ h => h) (Or.inl ⟨by rfl, by intro w' hS'; go_simp <;> (first | omega | (rw [IntKind.wrap_i64]; omega) | (rw [IntKind.wrap_u64]; omega) | (rw [IntKind.wrap_u32]; omega) | (rw [Int.tmod_eq_emod_of_nonneg (by omega)]))⟩) hSd ?_
      (try simp only [List.getElem_toArray, List.getElem_cons_succ, List.getElem_cons_zero, Act.put, List.setIfInBounds_toArray, List.set_cons_zero, List.set_cons_succ])
      refine wpAnyH_take (i := 1) (v := .pointer (some ⟨g, 0, none⟩)) rfl (by kernel_rfl) (by kernel_rfl) (by kernel_rfl) (fun _ _ _ h => h) (Or.inl ⟨by rfl, by intro w' hS'; go_simp <;> (first | omega | (rw [IntKind.wrap_i64]; omega) | (rw [IntKind.wrap_u64]; omega) | (rw [IntKind.wrap_u32]; omega) | (rw [Int.tmod_eq_emod_of_nonneg (by omega)]))⟩) hSd ?_
      (try simp only [List.getElem_toArray, List.getElem_cons_succ, List.getElem_cons_zero, Act.put, List.setIfInBounds_toArray, List.set_cons_zero, List.set_cons_succ])
      refine wpAnyH_take (i := 2) (v := .pointer (some ⟨g, 4, none⟩)) rfl (by kernel_rfl) (by kernel_rfl) (by kernel_rfl) (fun _ _ _ h => h) (Or.inl ⟨by rfl, by intro w' hS'; go_simp <;> (first | omega | (rw [IntKind.wrap_i64]; omega) | (rw [IntKind.wrap_u64]; omega) | (rw [IntKind.wrap_u32]; omega) | (rw [Int.tmod_eq_emod_of_nonneg (by omega)]))⟩) hSd ?_
      (try simp only [List.getElem_toArray, List.getElem_cons_succ, List.getElem_cons_zero, Act.put, List.setIfInBounds_toArray, List.set_cons_zero, List.set_cons_succ])
      refine wpAnyH_take (i := 3) (v := .slice (some ⟨gp, 0, none⟩) 512 c) rfl (by kernel_rfl) (by kernel_rfl) (by kernel_rfl) (fun _ _ _ h => h) (Or.inl ⟨by rfl, by intro w' hS'; have k5 := HX.out w' hS'; go_simp <;> (first | omega | (rw [IntKind.wrap_i64]; omega) | (rw [IntKind.wrap_u64]; omega) | (rw [IntKind.wrap_u32]; omega) | (rw [Int.tmod_eq_emod_of_nonneg (by omega)]))⟩) hSd ?_
      (try simp only [List.getElem_toArray, List.getElem_cons_succ, List.getElem_cons_zero, Act.put, List.setIfInBounds_toArray, List.set_cons_zero, List.set_cons_succ])
      refine wpAnyH_take (i := 4) (v := .int .i64 (x : Int)) rfl (by kernel_rfl) (by kernel_rfl) (by kernel_rfl) (fun _ _ _ h => h) (Or.inl ⟨by rfl, by intro w' hS'; go_simp <;> (first | omega | (rw [IntKind.wrap_i64]; omega) | (rw [IntKind.wrap_u64]; omega) | (rw [IntKind.wrap_u32]; omega) | (rw [Int.tmod_eq_emod_of_nonneg (by omega)]))⟩) hSd ?_
      (try simp only [List.getElem_toArray, List.getElem_cons_succ, List.getElem_cons_zero, Act.put, List.setIfInBounds_toArray, List.set_cons_zero, List.set_cons_succ])
      refine wpAnyH_take (i := 5) (v := .int .i64 (p : Int)) rfl (by kernel_rfl) (by kernel_rfl) (by kernel_rfl) (fun _ _ _ h => h) (Or.inl ⟨by rfl, by intro w' hS'; go_simp <;> (first | omega | (rw [IntKind.wrap_i64]; omega) | (rw [IntKind.wrap_u64]; omega) | (rw [IntKind.wrap_u32]; omega) | (rw [Int.tmod_eq_emod_of_nonneg (by omega)]))⟩) hSd ?_
      (try simp only [List.getElem_toArray, List.getElem_cons_succ, List.getElem_cons_zero, Act.put, List.setIfInBounds_toArray, List.set_cons_zero, List.set_cons_succ])
      refine wpAnyH_take (i := 6) (v := .int .i64 1) rfl (by kernel_rfl) (by kernel_rfl) (by kernel_rfl) (fun _ _ _ h => h) (Or.inl ⟨by rfl, by intro w' hS'; go_simp <;> (first | omega | (rw [IntKind.wrap_i64]; omega) | (rw [IntKind.wrap_u64]; omega) | (rw [IntKind.wrap_u32]; omega) | (rw [Int.tmod_eq_emod_of_nonneg (by omega)]))⟩) hSd ?_
      (try simp only [List.getElem_toArray, List.getElem_cons_succ, List.getElem_cons_zero, Act.put, List.setIfInBounds_toArray, List.set_cons_zero, List.set_cons_succ])
      refine held_stepS (i := 7) (by kernel_rfl) rfl (by rfl) ?_
      go_simp
      refine (HMV.out W.drew).mono ?_
      rintro e w5 ⟨rfl, rfl⟩
      refine ⟨hSd, ?_⟩
      (try simp only [List.getElem_toArray, List.getElem_cons_succ, List.getElem_cons_zero, Act.put, List.setIfInBounds_toArray, List.set_cons_zero, List.set_cons_succ])
      refine wpAnyH_take (i := 8) (v := .pointer (some ⟨gp, x, none⟩)) rfl (by kernel_rfl) (by kernel_rfl) (by kernel_rfl) (fun _ _ _ h => h) (Or.inl ⟨by rfl, by intro w' hS'; go_simp <;> (first | omega | (rw [IntKind.wrap_i64]; omega) | (rw [IntKind.wrap_u64]; omega) | (rw [IntKind.wrap_u32]; omega) | (rw [Int.tmod_eq_emod_of_nonneg (by omega)]))⟩) hSd ?_
      (try simp only [List.getElem_toArray, List.getElem_cons_succ, List.getElem_cons_zero, Act.put, List.setIfInBounds_toArray, List.set_cons_zero, List.set_cons_succ])
      obtain ⟨hpB, cur, hgr⟩ := HR1.out.prow
      have c5 : W.drew.cell? ⟨gp, x, none⟩ = some (.int .i64 (p : Int)) := by
        have h := HR1.out.own.cells (g := gp) rfl x (.int .i64 (p : Int)) (by rw [List.getElem?_map, List.getElem?_range HXX.out, HPX.out.2.2]; rfl)
        rw [addr0] at h
        exact h
      have z5 := frozen_of_row W.drew gp x _ _ hgr
      obtain ⟨hbt, hnr, hprr⟩ := HN1.out (by first | exact hlt | omega)
      have hR5 : SDR (W.setCell ⟨gp, x, none⟩ (.int .i64 (n : Int))).drew B g cd1 wd1 R false gp c pr' := by
        have h := (HR1.out.mv x n).drew
        rw [hprr, ← HNN.out]; exact h
      have hF5 : FRS w (W.setCell ⟨gp, x, none⟩ (.int .i64 (n : Int))).drew B g := (HF1.out.setI hpB hgr x _).drew
      have HR5 := hidS hR5
      have HF5 := hidS hF5
      have HBT : Hid (bt = 1) := hbt
      have HNR : Hid (snrm wd1 cd1 (bl R) = N) := by rw [HCW.out.1, HCW.out.2]; exact hnr
      have HBD : Hid (cd1 < 4294967296 ∧ wd1 < 4294967296) := by have := HCW.out; exact ⟨by omega, by omega⟩
      clear hgr hR5 hF5 hbt hnr hprr HN0 HN1
      refine held_stepS (i := 9) (by kernel_rfl) rfl (by rfl) ?_
      go_simp
      refine ⟨by rw [HSS.out]; exact cell_of_row _ _ _ _ _ _ HR5.out.row, ?_⟩
      (try simp only [List.getElem_toArray, List.getElem_cons_succ, List.getElem_cons_zero, Act.put, List.setIfInBounds_toArray, List.set_cons_zero, List.set_cons_succ])
      refine wpAnyH_done (by kernel_rfl) ?_ _
      clear c5 z5 hSd HX HSS HMV HR1 HF1 hlt hltI f1 f2 f3 f4 hble hw2 hc2
      go_wp2_with fail
      go_loopw [] (fun wr => ∃ (cd2 wd2 : Nat) (R2 : ByteArray), Hid (SDR wr B g cd2 wd2 R2 false gp c pr') ∧ wd2 < 4294967296 ∧ cd2 < 4294967296 ∧ Hid (snrm wd2 cd2 (bl R2) = N) ∧ Hid (FRS w wr B g)) (fun wr => restS g wr)
      case atStart => exact ⟨cd1, wd1, R, HR5, HBD.out.2, HBD.out.1, HNR, HF5⟩
      case round =>
        clear HR5 HF5 HNR HBD
        obtain ⟨cd2, wd2, R2, HE, hw2, hc2, HNR, HF⟩ := hrel
        have y1 : wr.cell? ⟨g, 1, none⟩ = some (.int .u32 (wd2 : Int)) := cell_of_row _ _ _ _ _ _ HE.out.row
        have y2 : wr.cell? ⟨g, 2, none⟩ = some (.string R2) := cell_of_row _ _ _ _ _ _ HE.out.row
        have y3 : wr.cell? ⟨g, 3, none⟩ = some (.bool false) := cell_of_row _ _ _ _ _ _ HE.out.row
        have HMW : Hid (restS g wr = R2.size) := restS_eq y2
        by_cases hwl : wd2 < 16777216
        · have hwlI : (wd2 : Int) < 16777216 := by omega
          by_cases hr0 : R2.size = 0
          · have hte : R2.toList.isEmpty = true := by rw [Lib.toList_data]; have h := Lib.size_eq R2; rw [hr0] at h; rw [List.length_eq_zero_iff.1 h.symm]; rfl
            have hn := HNR.out
            rw [bl_nil hr0, snrm_end hwl] at hn
            obtain rfl := HTN.out (by rw [← hn])
            have z3 := frozen_of_row wr g 3 _ _ HE.out.row
            have HFIN : Hid (SDAt (wr.setCell ⟨g, 3, none⟩ (.bool true)) B g sg ∧ FRS w (wr.setCell ⟨g, 3, none⟩ (.bool true)) B g) := HGO.out _ R2 true (by rw [← hn]; exact HE.out.setB true) (by rw [← hn]; rfl) (by rw [← hn, bl_nil hr0]) (HF.out.set HE.out.gB 3 _)
            clear hn HGO HNR HE HF HTN HTY HBT hr0
            go_wp2_with fail
            go_ret
            exact ⟨rfl, HFIN.out⟩
          · have hr1 : 0 < R2.size := by omega
            have hr1I : (0 : Int) < (R2.size : Int) := by omega
            have hr2I : (1 : Int) ≤ (R2.size : Int) := by omega
            have hte : R2.toList.isEmpty = false := by
              rw [Lib.toList_data]
              cases h : R2.data.toList with
              | nil =>
                have h2 : R2.size = 0 := by rw [Lib.size_eq, h]; rfl
                omega
              | cons _ _ => rfl
            obtain ⟨b1, hb1⟩ : ∃ b1 : Nat, b1 = R2[0].toNat := ⟨_, rfl⟩
            have hb256 : b1 < 256 := by rw [hb1]; exact UInt8.toNat_lt _
            have hb1I : ((R2[0].toNat : Nat) : Int) = (b1 : Int) := by rw [hb1]
            obtain ⟨wd3, hwd3⟩ : ∃ wd3, wd3 = wd2 * 256 := ⟨_, rfl⟩
            obtain ⟨cc, hcc⟩ : ∃ cc, cc = cd2 * 256 % 4294967296 := ⟨_, rfl⟩
            obtain ⟨cd3, hcd3⟩ : ∃ cd3, cd3 = (cd2 * 256 + b1) % 4294967296 := ⟨_, rfl⟩
            have hn := HNR.out
            rw [bl_cons hr1, snrm_step hwl, ← hb1, ← hcd3, ← hwd3] at hn
            have HNR2 : Hid (snrm wd3 cd3 (bl (R2.extract 1 R2.size)) = N) := hn
            have f1 : IntKind.u32.wrap ((wd2 : Int) * 256) = (wd3 : Int) := by rw [IntKind.wrap_u32]; omega
            have f2 : IntKind.u32.wrap ((cd2 : Int) * 256) = (cc : Int) := by rw [IntKind.wrap_u32]; omega
            have f3 : bits .or .u32 (cc : Int) (b1 : Int) = (cd3 : Int) := by
              have h := or_byte (cd2 % 16777216) b1 (by omega) hb256
              have e1 : ((cd2 % 16777216 : Nat) : Int) * 256 = (cc : Int) := by omega
              rw [e1] at h
              rw [h]; omega
            have f4 : IntKind.u32.wrap (b1 : Int) = (b1 : Int) := by rw [IntKind.wrap_u32]; omega
            have hw3b : wd3 < 4294967296 := by omega
            have hc3b : cd3 < 4294967296 := by omega
            have z1 := frozen_of_row wr g 1 _ _ HE.out.row
            obtain ⟨W2, hW2⟩ : ∃ W2, W2 = wr.setCell ⟨g, 1, none⟩ (.int .u32 (wd3 : Int)) := ⟨_, rfl⟩
            have hE2 : SDR W2 B g cd2 wd3 R2 false gp c pr' := by rw [hW2]; exact HE.out.setW wd3
            have hF2 : FRS w W2 B g := by rw [hW2]; exact HF.out.set HE.out.gB 1 _
            have HE2 := hidS hE2
            have HF2 := hidS hF2
            clear hE2 hF2 hn HNR HE HF hwd3 hcc hcd3 hb1 hr0 hwl
            go_wp2_with fail
            rw [← hW2]
            clear hW2 y1 y2 y3 z1
            have v0 : W2.cell? ⟨g, 0, none⟩ = some (.int .u32 (cd2 : Int)) := cell_of_row _ _ _ _ _ _ HE2.out.row
            have v2 : W2.cell? ⟨g, 2, none⟩ = some (.string R2) := cell_of_row _ _ _ _ _ _ HE2.out.row
            have w0 := frozen_of_row W2 g 0 _ _ HE2.out.row
            go_region
            obtain ⟨W3, hW3⟩ : ∃ W3, W3 = (W2.setCell ⟨g, 0, none⟩ (.int .u32 (cd3 : Int))).drew := ⟨_, rfl⟩
            have hE3 : SDR W3 B g cd3 wd3 R2 false gp c pr' := by rw [hW3]; exact (HE2.out.setC cd3).drew
            have hF3 : FRS w W3 B g := by rw [hW3]; exact (HF2.out.set HE2.out.gB 0 _).drew
            have HE3 := hidS hE3
            have HF3 := hidS hF3
            rw [← hW3]
            clear hE3 hF3 hW3 HE2 HF2 v0 v2 w0 f1 f2 f3 f4 hte hb1I
            have u2 : W3.cell? ⟨g, 2, none⟩ = some (.string R2) := cell_of_row _ _ _ _ _ _ HE3.out.row
            have q2 := frozen_of_row W3 g 2 _ _ HE3.out.row
            go_wp2_with fail
            go_roundw
            case rel => exact ⟨cd3, wd3, R2.extract 1 R2.size, HE3.out.setR _, hw3b, hc3b, HNR2, HF3.out.set HE3.out.gB 2 _⟩
            case measure =>
              rw [HMW.out]
              have h2 := HE3.out.setR (R2.extract 1 R2.size)
              have h3 := restS_eq (cell_of_row _ g 2 _ _ _ h2.row)
              rw [h3, ByteArray.size_extract]
              omega
        · have hn := HNR.out
          rw [snrm_done (by omega)] at hn
          obtain rfl := HTY.out (by rw [← hn])
          have hwlI : ¬ (wd2 : Int) < 16777216 := by omega
          have HFIN : Hid (SDAt wr B g sg ∧ FRS w wr B g) := HGO.out wr R2 false (by rw [← hn]; exact HE.out) (by rw [← hn]; rfl) (by rw [← hn]) HF.out
          have HBT2 := HBT.out
          subst HBT2
          clear hn HGO HNR HE HF HTN HTY hwl
          go_wp2_with fail
          go_ret
          exact ⟨rfl, HFIN.out⟩
end Go.Proofs.Ytbkjcngehhdchaa
