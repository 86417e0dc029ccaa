/-
  Several texts of this seat as one: DtM, BldK, DtC.
-/
import Derived.Test.YtpeddaljgmkomaaPk06
import Derived.Test.YtpeddaljgmkomaaPk21
import Derived.Test.YtpeddaljgmkomaaPk12
import Derived.Shelf.Strings.BuilderK
import Derived.Below
import Derived.Lib.AppendStr
import Derived.Lib.UnsafeStr
import Derived.Lib.OthersKept
import Derived.Laws.Strings

/-!   The text of pieces. -/
namespace Go.Proofs.Ytpeddaljgmkomaa
open Go.RowKit
set_option linter.unusedVariables false
def putB (n : Nat) : ByteArray := ⟨(put n).toArray⟩
theorem putB_size {n : Nat} (h : n < 18446744073709551616) : (putB n).size ≤ 10 := by
  show (put n).toArray.size ≤ 10
  rw [List.size_toArray]; exact put_ten h
theorem putT_size {s : ByteArray} (h : s.size ≤ 1048576) : (putTextOut s).size ≤ 1048586 := by
  have h1 := putB_size (n := s.size) (by omega)
  show (putB s.size ++ s).size ≤ _
  rw [ByteArray.size_append]; omega
noncomputable def dtB (F : Nat → PcI) (n : Nat) : Nat → ByteArray
  | 0 => putB n
  | i + 1 => open Classical in if (F i).d = ⟨#[]⟩ then ((dtB F n i ++ putTextOut ⟨#[]⟩) ++ putB (F i).f.toNat) ++ putB (F i).l.toNat else dtB F n i ++ putTextOut (F i).d
theorem dtB_no {F : Nat → PcI} {n i : Nat} (h : (F i).d = ⟨#[]⟩) : dtB F n (i + 1) = ((dtB F n i ++ putTextOut ⟨#[]⟩) ++ putB (F i).f.toNat) ++ putB (F i).l.toNat := by
  show (if _ then _ else _) = _
  rw [if_pos h]
theorem dtB_yes {F : Nat → PcI} {n i : Nat} (h : (F i).d ≠ ⟨#[]⟩) : dtB F n (i + 1) = dtB F n i ++ putTextOut (F i).d := by
  show (if _ then _ else _) = _
  rw [if_neg h]
theorem dtB_size {F : Nat → PcI} {n i : Nat} (hn : n ≤ 500) (hd : ∀ j, j < i → (F j).d.size ≤ 1048576) (hp : ∀ j, j < i → pcP (F j) 4000) : (dtB F n i).size ≤ 10 + i * 1048606 := by
  induction i with
  | zero => have := putB_size (n := n) (by omega); show (putB n).size ≤ _; omega
  | succ i ih =>
    have h1 := ih (fun j hj => hd j (by omega)) (fun j hj => hp j (by omega))
    by_cases h : (F i).d = ⟨#[]⟩
    · rw [dtB_no h, ByteArray.size_append, ByteArray.size_append, ByteArray.size_append]
      have h2 := putT_size (s := ⟨#[]⟩) (by show 0 ≤ _; omega)
      rcases hp i (by omega) with ⟨_, c1, c2, c3, c4⟩ | ⟨c, _⟩
      · have h3 := putB_size (n := (F i).f.toNat) (by omega)
        have h4 := putB_size (n := (F i).l.toNat) (by omega)
        omega
      · exact absurd h c
    · rw [dtB_yes h, ByteArray.size_append]
      have h2 := putT_size (hd i (by omega))
      omega
noncomputable def dtV (F : Nat → PcI) (n : Nat) : ByteArray := if pcB F n 4000 then dtB F n n else ⟨#[]⟩
theorem dtV_yes {F : Nat → PcI} {n : Nat} (h : pcR F n 4000) : dtV F n = dtB F n n := by unfold dtV; rw [pcB_yes h]; rfl
theorem dtV_no {F : Nat → PcI} {n : Nat} (h : ¬ pcR F n 4000) : dtV F n = ⟨#[]⟩ := by unfold dtV; rw [pcB_no h]; rfl
end Go.Proofs.Ytpeddaljgmkomaa

/-!   A strings.Builder by its contracts, with what it leaves beside itself. -/
namespace Go.Proofs.Ytpeddaljgmkomaa
open Go.RowKit
set_option linter.unusedVariables false
/-- a builder that holds a text -/
def BldK (B b : Nat) (s : ByteArray) (w : World) : Prop := Lib.IsBuilderF 99 5 B b (Lib.strCells s) w
theorem bldk_new (w : World) : BldK w.heap.size w.heap.size ⟨#[]⟩ (w.alloc (.cells #[.pointer none, .slice none 0 0] 99)) := Lib.IsBuilderF.of (Lib.fresh_isBuilder 99 5 w)
theorem BldK.call {B b : Nat} {s : ByteArray} {w w' : World} (h : BldK B b s w) (hb : Below w.heap.size w w') : BldK B b s w' := by
  have key : ∀ p, Lib.BuilderAtF 99 5 B b p (Lib.strCells s) w → Lib.BuilderAtF 99 5 B b p (Lib.strCells s) w' := fun p h => by
    have hlt := h.lt
    obtain ⟨h1, v, h2, h3, h4⟩ := h
    refine ⟨h1, v, (hb.block b hlt).trans h2, h3.kept (row := none) ⟨hb.os, hb.tape, hb.output, hb.size, fun k hk _ => hb.block k hk⟩ ?_, h4⟩
    cases hv : v.ownBlock with
    | none => exact Or.inl rfl
    | some g => exact Or.inr (by simp)
  rcases h with h | h
  · exact Or.inl (key _ h)
  · exact Or.inr (key _ h)
theorem BldK.alloc {B b : Nat} {s : ByteArray} {w : World} (h : BldK B b s w) (X : Obj) : BldK B b s (w.alloc X) := h.call ((Below.refl _ _).alloc (Nat.le_refl _) _)
theorem BldK.lt {B b : Nat} {s : ByteArray} {w : World} (h : BldK B b s w) : b < w.heap.size := by
  rcases h with h | h
  · exact Lib.BuilderAtF.lt h
  · exact Lib.BuilderAtF.lt h
theorem strCells_appendK (a b : ByteArray) : Lib.strCells (a ++ b) = Lib.strCells a ++ Lib.strCells b := by
  rw [Lib.strCells_eq, Lib.strCells_eq, Lib.strCells_eq, ← Lib.byteCells_append]; simp
/-- what a write leaves: every block of cells that is neither the builder nor bytes -/
def KeepB (b : Nat) (w w' : World) : Prop := ∀ (k : Nat) (cs : Array Value) (t : TypeId) (m : Nat × Nat), w.heap[k]? = some (.cells cs t m) → k ≠ b → t ≠ 5 → w'.heap[k]? = some (.cells cs t m)
theorem bldk_add (B b : Nat) (a s : ByteArray) (w : World) (h : BldK B b a w) (hlen : a.size + s.size ≤ 140737488355328) (hBw : B ≤ w.heap.size) :
    Calls Try.prog 85 #[.pointer (some ⟨b, 0, none⟩), .string s] w fun e w' => e = .returned (.tuple #[.int .i64 s.size, .nilIface]) ∧ BldK B b (a ++ s) w' ∧ Below B w w' ∧ KeepB b w w' :=
  (Go.Proofs.Any.Builder_WriteString_k Go.Proofs.Try.lays166 Go.Proofs.Try.Builder_Extra_166 B b _ s w h (by rw [Lib.strCells_length]; exact hlen) hBw).mono fun e w' ⟨h1, h2, h3, h4⟩ => ⟨h1, by unfold BldK; rw [strCells_appendK]; exact Or.inr h2, h3, fun k cs t m q1 q2 q3 => h4 k _ q1 (fun e => q2 (Option.some.inj e)) (fun c fz e => q3 (by injection e))⟩
theorem bldk_tell (B b : Nat) (a : ByteArray) (w : World) (h : BldK B b a w) (hBw : B ≤ w.heap.size) :
    Calls Try.prog 88 #[.pointer (some ⟨b, 0, none⟩)] w fun e w' => e = .returned (.string a) ∧ Below B w w' := by
  have h2 := Go.Proofs.Any.Builder_String_any_f Go.Proofs.Try.lays169 Go.Proofs.Try.Builder_Extra_169 B b a.data.toList w h hBw
  have e : (⟨a.data.toList.toArray⟩ : ByteArray) = a := by cases a; rfl
  rw [e] at h2
  exact h2.mono fun e w' h => ⟨h.1, h.2.2⟩
end Go.Proofs.Ytpeddaljgmkomaa

/-!   The text of pieces: the code's. -/
namespace Go.Proofs.Ytpeddaljgmkomaa
open Go.RowKit
set_option linter.unusedVariables false
set_option linter.unusedSimpArgs false
theorem row_ltP {w : World} {g : Nat} {X : Obj} (h : w.heap[g]? = some X) : g < w.heap.size := (Array.getElem?_eq_some_iff.1 h).1
set_option maxRecDepth 100000 in
set_option maxHeartbeats 4000000 in
theorem dt_yes (a : Option Addr) (c n : Nat) (F : Nat → PcI) (w : World) (hF : PcLe F n) (hok : pcR F n 4000) (hr : 0 < n → ∃ g, a = some ⟨g, 0, none⟩ ∧ PcRow w g n F) :
    Calls Try.prog 57 #[.slice a n c] w fun e w' => e = .returned (.string (dtB F n n)) ∧ Below w.heap.size w w' := by
  have hnI : (n : Int) ≤ 500 := by have := hok.2.2.1; omega
  have hwn : IntKind.u64.wrap (n : Int) = (n : Int) := by rw [IntKind.wrap_u64]; omega
  have HK : Hid (∀ w, PcArg w (.slice a n c) n F → Calls Try.prog 80 #[.int .i64 4000, .slice a n c] w fun e w' => e = .returned (.bool true) ∧ Below w.heap.size w w') := fun w h => by
    have h2 := pcs_any (.slice a n c) n F 4000 w hF h
    rw [pcB_yes hok] at h2
    exact h2
  have HP : Hid (∀ (m : Nat) w, m < 18446744073709551616 → Calls Try.prog 86 #[.int .u64 (m : Int)] w fun e w' => e = .returned (.string (putB m)) ∧ Below w.heap.size w w') := fun m w h => cput_any m w h
  have HPT : Hid (∀ (s : ByteArray) w, s.size ≤ 1048576 → Calls Try.prog 87 #[.string s] w fun e w' => e = .returned (.string (putTextOut s)) ∧ Below w.heap.size w w') := fun s w h => cputText_any s w (by omega)
  have HR : Hid (∀ w', Below w.heap.size w w' → 0 < n → ∃ g, a = some ⟨g, 0, none⟩ ∧ PcRow w' g n F) := fun w' hb h0 => by
    obtain ⟨g, h1, h2⟩ := hr h0
    exact ⟨g, h1, h2.below hb h2.lt⟩
  have HA : Hid (PcArg w (.slice a n c) n F) := ⟨a, c, rfl, hr⟩
  have HO : Hid (pcR F n 4000 ∧ ∀ i, i < n → (F i).d.size ≤ 1048576) := ⟨hok, hF.d⟩
  have hpn := putB_size (n := n) (by omega)
  clear hr hok hF
  go_enter Try.func57, Try.ntmps57
  go_wp2_with fail
  refine (HK.out _ HA.out).mono ?_
  rintro e w1 ⟨rfl, hb1⟩
  have HB1 : Hid (Below w.heap.size w w1) := hb1
  have HBL : Hid (BldK w1.heap.size w1.heap.size ⟨#[]⟩ (w1.alloc (.cells #[.pointer none, .slice none 0 0] 99))) := bldk_new w1
  have HB2 : Hid (Below w.heap.size w (w1.alloc (.cells #[.pointer none, .slice none 0 0] 99))) := hb1.alloc hb1.size _
  clear hb1 HA HK
  go_wp2_with fail
  refine (HP.out n _ (by omega)).mono ?_
  rintro e w2 ⟨rfl, hb2⟩
  have HBL2 : Hid (BldK w1.heap.size w1.heap.size ⟨#[]⟩ w2) := HBL.out.call hb2
  have HB3 : Hid (Below w.heap.size w w2) := bl3 HB2.out hb2 HB2.out.size
  have hws : w1.heap.size ≤ w2.heap.size := by have := hb2.size; simp at this; omega
  clear hb2 HBL HB2
  go_wp2_with fail
  refine (bldk_add w1.heap.size w1.heap.size ⟨#[]⟩ (putB n) _ HBL2.out (by show 0 + _ ≤ _; omega) hws).mono ?_
  rintro e w3 ⟨rfl, hbl3, hb3, _⟩
  have e0 : (⟨#[]⟩ : ByteArray) ++ putB n = dtB F n 0 := by show ByteArray.empty ++ putB n = putB n; rw [ByteArray.empty_append]
  rw [e0] at hbl3
  have HBL3 : Hid (BldK w1.heap.size w1.heap.size (dtB F n 0) w3) := hbl3
  have HB4 : Hid (Below w.heap.size w w3) := HB3.out.trans (hb3.mono HB1.out.size)
  have hws3 : w1.heap.size ≤ w3.heap.size := by have := hb3.size; omega
  clear hb3 hbl3 e0 HBL2 HB3 hws
  go_wp2_with fail
  go_loopw [16] (fun v wr => ∃ (i : Nat), i ≤ n ∧ v = .int .i64 (i : Int) ∧ w1.heap.size ≤ wr.heap.size ∧ Hid (BldK w1.heap.size w1.heap.size (dtB F n i) wr) ∧ Hid (Below w.heap.size w wr)) (fun v _ => n - (intN v).toNat)
  case atStart => exact ⟨0, by omega, rfl, hws3, HBL3, HB4⟩
  case round =>
    clear HBL3 HB4 hws3
    obtain ⟨i, hi, rfl, hws, HBL, HB⟩ := hrel
    by_cases hlt : i < n
    · have hltI : (i : Int) < (n : Int) := by omega
      obtain ⟨g, rfl, hrow⟩ := HR.out _ HB.out (by omega)
      obtain ⟨q, hq⟩ : ∃ q, q = 3 * i := ⟨_, rfl⟩
      have x0 := hrow.c0 i hlt
      have x1 := hrow.c1 i hlt
      have x2 := hrow.c2 i hlt
      rw [← hq] at x0 x1 x2
      have hiq : i * 3 = q := by omega
      have hp := HO.out.1.2.2.2.1 i hlt
      have hdi := HO.out.2 i hlt
      have hle := dtB_size (F := F) (n := n) (i := i) (by omega) (fun j hj => HO.out.2 j (by omega)) (fun j hj => HO.out.1.2.2.2.1 j (by omega))
      have hle2 : (dtB F n i).size ≤ 1000000000 := by omega
      have HY : Hid ((F i).d ≠ ⟨#[]⟩ → dtB F n (i + 1) = dtB F n i ++ putTextOut (F i).d) := fun h => dtB_yes h
      have HN : Hid ((F i).d = ⟨#[]⟩ → dtB F n (i + 1) = ((dtB F n i ++ putTextOut ⟨#[]⟩) ++ putB (F i).f.toNat) ++ putB (F i).l.toNat) := fun h => dtB_no h
      have hb0 : Below w.heap.size w (wr.alloc (.cells #[.int .i64 (F i).f, .int .i64 (F i).l, .string (F i).d] 89)) := HB.out.alloc HB.out.size _
      have hbl0 : BldK w1.heap.size w1.heap.size (dtB F n i) (wr.alloc (.cells #[.int .i64 (F i).f, .int .i64 (F i).l, .string (F i).d] 89)) := HBL.out.alloc _
      have HB0 : Hid _ := hb0
      have HBL0 : Hid _ := hbl0
      have hwlt := HBL.out.lt
      clear hrow hq hb0 hbl0 HBL HB hle
      generalize F i = p at x0 x1 x2 hp HY HN hdi HB0 HBL0
      generalize dtB F n i = acc at hle2 HY HN HBL0
      obtain ⟨f, l, d⟩ := p
      simp only at x0 x1 x2 hdi HY HN HB0 HBL0
      have htx := putT_size hdi
      have hgt : w1.heap.size < wr.heap.size := hwlt
      go_wp2_with fail
      refine (HPT.out d _ hdi).mono ?_
      rintro e w4 ⟨rfl, hb4⟩
      have hr4 : Hid (w4.heap[wr.heap.size]? = some (.cells #[.int .i64 f, .int .i64 l, .string d] 89 (0, 0))) := (hb4.block _ (by simp)).trans (heap_alloc_new wr _)
      have HBL4 : Hid (BldK w1.heap.size w1.heap.size acc w4) := BldK.call HBL0.out hb4
      have HB4 : Hid (Below w.heap.size w w4) := bl3 HB0.out hb4 HB0.out.size
      have hws4 : w1.heap.size ≤ w4.heap.size := by have := hb4.size; simp at this; omega
      clear hb4 HBL0 HB0 x0 x1 x2
      go_wp2_with fail
      refine (bldk_add w1.heap.size w1.heap.size acc _ _ HBL4.out (by (try simp only [ByteArray.size_append]); omega) hws4).mono ?_
      rintro e w5 ⟨rfl, hbl5, hb5, hk5⟩
      have hr5 : Hid (w5.heap[wr.heap.size]? = some (.cells #[.int .i64 f, .int .i64 l, .string d] 89 (0, 0))) := hk5 _ _ _ _ hr4.out (by omega) (by decide)
      have HBL5 : Hid (BldK w1.heap.size w1.heap.size (acc ++ putTextOut d) w5) := hbl5
      have HB5 : Hid (Below w.heap.size w w5) := HB4.out.trans (hb5.mono HB1.out.size)
      have hws5 : w1.heap.size ≤ w5.heap.size := by have := hb5.size; omega
      have b50 : w5.cell? ⟨wr.heap.size, 0, none⟩ = some (.int .i64 f) := cell_of_row _ _ _ _ _ _ hr5.out
      have b51 : w5.cell? ⟨wr.heap.size, 1, none⟩ = some (.int .i64 l) := cell_of_row _ _ _ _ _ _ hr5.out
      have b52 : w5.cell? ⟨wr.heap.size, 2, none⟩ = some (.string d) := cell_of_row _ _ _ _ _ _ hr5.out
      clear hb5 hbl5 hk5 HBL4 HB4 hr4
      rcases hp with ⟨h, h1, h2, h3, h4⟩ | ⟨h, h1, h2⟩
      · simp only at h h1 h2 h3 h4
        subst h
        obtain ⟨f2, rfl⟩ : ∃ f2 : Nat, f = (f2 : Int) := ⟨f.toNat, by omega⟩
        obtain ⟨l2, rfl⟩ : ∃ l2 : Nat, l = (l2 : Int) := ⟨l.toNat, by omega⟩
        have hN2 := HN.out rfl
        simp only [Int.toNat_natCast] at hN2
        have HN2 : Hid (dtB F n (i + 1) = ((acc ++ putTextOut ⟨#[]⟩) ++ putB f2) ++ putB l2) := hN2
        have hwf : IntKind.u64.wrap (f2 : Int) = (f2 : Int) := by rw [IntKind.wrap_u64]; omega
        have hwl : IntKind.u64.wrap (l2 : Int) = (l2 : Int) := by rw [IntKind.wrap_u64]; omega
        have hpf := putB_size (n := f2) (by omega)
        have hpl := putB_size (n := l2) (by omega)
        clear HN HY hN2
        go_wp2_with fail
        refine (HP.out f2 _ (by omega)).mono ?_
        rintro e w6 ⟨rfl, hb6⟩
        have hr6 : Hid (w6.heap[wr.heap.size]? = some (.cells #[.int .i64 (f2 : Int), .int .i64 (l2 : Int), .string ⟨#[]⟩] 89 (0, 0))) := (hb6.block _ (row_ltP hr5.out)).trans hr5.out
        have HBL6 : Hid _ := BldK.call HBL5.out hb6
        have HB6 : Hid (Below w.heap.size w w6) := bl3 HB5.out hb6 HB5.out.size
        have hws6 : w1.heap.size ≤ w6.heap.size := by have := hb6.size; omega
        clear hb6 HBL5 HB5 hr5 b50 b51 b52
        go_wp2_with fail
        refine (bldk_add w1.heap.size w1.heap.size (acc ++ putTextOut ⟨#[]⟩) _ _ HBL6.out (by (try simp only [ByteArray.size_append]); omega) hws6).mono ?_
        rintro e w7 ⟨rfl, hbl7, hb7, hk7⟩
        have hr7 : Hid (w7.heap[wr.heap.size]? = some (.cells #[.int .i64 (f2 : Int), .int .i64 (l2 : Int), .string ⟨#[]⟩] 89 (0, 0))) := hk7 _ _ _ _ hr6.out (by omega) (by decide)
        have HBL7 : Hid (BldK w1.heap.size w1.heap.size ((acc ++ putTextOut ⟨#[]⟩) ++ putB f2) w7) := hbl7
        have HB7 : Hid (Below w.heap.size w w7) := HB6.out.trans (hb7.mono HB1.out.size)
        have hws7 : w1.heap.size ≤ w7.heap.size := by have := hb7.size; omega
        have b70 : w7.cell? ⟨wr.heap.size, 0, none⟩ = some (.int .i64 (f2 : Int)) := cell_of_row _ _ _ _ _ _ hr7.out
        have b71 : w7.cell? ⟨wr.heap.size, 1, none⟩ = some (.int .i64 (l2 : Int)) := cell_of_row _ _ _ _ _ _ hr7.out
        have b72 : w7.cell? ⟨wr.heap.size, 2, none⟩ = some (.string ⟨#[]⟩) := cell_of_row _ _ _ _ _ _ hr7.out
        clear hb7 hbl7 hk7 HBL6 HB6 hr6
        go_wp2_with fail
        refine (HP.out l2 _ (by omega)).mono ?_
        rintro e w8 ⟨rfl, hb8⟩
        have hr8 : Hid (w8.heap[wr.heap.size]? = some (.cells #[.int .i64 (f2 : Int), .int .i64 (l2 : Int), .string ⟨#[]⟩] 89 (0, 0))) := (hb8.block _ (row_ltP hr7.out)).trans hr7.out
        have HBL8 : Hid _ := BldK.call HBL7.out hb8
        have HB8 : Hid (Below w.heap.size w w8) := bl3 HB7.out hb8 HB7.out.size
        have hws8 : w1.heap.size ≤ w8.heap.size := by have := hb8.size; omega
        clear hb8 HBL7 HB7 hr7 b70 b71 b72
        go_wp2_with fail
        refine (bldk_add w1.heap.size w1.heap.size ((acc ++ putTextOut ⟨#[]⟩) ++ putB f2) _ _ HBL8.out (by (try simp only [ByteArray.size_append]); omega) hws8).mono ?_
        rintro e w9 ⟨rfl, hbl9, hb9, hk9⟩
        have hr9 : Hid (w9.heap[wr.heap.size]? = some (.cells #[.int .i64 (f2 : Int), .int .i64 (l2 : Int), .string ⟨#[]⟩] 89 (0, 0))) := hk9 _ _ _ _ hr8.out (by omega) (by decide)
        have HBL9 : Hid (BldK w1.heap.size w1.heap.size (((acc ++ putTextOut ⟨#[]⟩) ++ putB f2) ++ putB l2) w9) := hbl9
        have HB9 : Hid (Below w.heap.size w w9) := HB8.out.trans (hb9.mono HB1.out.size)
        have hws9 : w1.heap.size ≤ w9.heap.size := by have := hb9.size; omega
        have b90 : w9.cell? ⟨wr.heap.size, 0, none⟩ = some (.int .i64 (f2 : Int)) := cell_of_row _ _ _ _ _ _ hr9.out
        have b91 : w9.cell? ⟨wr.heap.size, 1, none⟩ = some (.int .i64 (l2 : Int)) := cell_of_row _ _ _ _ _ _ hr9.out
        have b92 : w9.cell? ⟨wr.heap.size, 2, none⟩ = some (.string ⟨#[]⟩) := cell_of_row _ _ _ _ _ _ hr9.out
        clear hb9 hbl9 hk9 HBL8 HB8 hr8
        have HBLE : Hid (BldK w1.heap.size w1.heap.size (dtB F n (i + 1)) w9) := by rw [HN2.out]; exact HBL9
        clear HBL9 b90 b91 b92 hr9
        go_wp2_with fail
        go_roundw
        case rel => exact ⟨i + 1, by omega, by go_num, hws9, HBLE, HB9⟩
        case measure => simp [intN]; omega
      · simp only at h h1 h2
        have HBLE : Hid (BldK w1.heap.size w1.heap.size (dtB F n (i + 1)) w5) := by rw [HY.out h]; exact HBL5
        have he := d_ne h
        clear h HBL5 HN HY
        go_wp2_with fail
        go_roundw
        case rel => exact ⟨i + 1, by omega, by go_num, hws5, HBLE, HB5⟩
        case measure => simp [intN]; omega
    · obtain rfl : i = n := by omega
      go_wp2_with fail
      refine (bldk_tell w1.heap.size w1.heap.size (dtB F i i) _ HBL.out hws).mono ?_
      rintro e w3 ⟨rfl, hb3⟩
      have HB3 : Hid (Below w.heap.size w w3) := HB.out.trans (hb3.mono HB1.out.size)
      clear hb3
      go_wp2_with fail
      go_ret
      exact ⟨rfl, HB3.out⟩
set_option maxRecDepth 100000 in
theorem dt_no (v : Value) (n : Nat) (F : Nat → PcI) (w : World) (hF : PcLe F n) (hok : ¬ pcR F n 4000) (hr : PcArg w v n F) :
    Calls Try.prog 57 #[v] w fun e w' => e = .returned (.string ⟨#[]⟩) ∧ Below w.heap.size w w' := by
  have HK : Hid (Calls Try.prog 80 #[.int .i64 4000, v] w fun e w' => e = .returned (.bool false) ∧ Below w.heap.size w w') := by
    have h2 := pcs_any v n F 4000 w hF hr
    rw [pcB_no hok] at h2
    exact h2
  obtain ⟨a, c, rfl, _⟩ := hr
  clear hok hF
  go_enter Try.func57, Try.ntmps57
  go_wp2_with fail
  refine HK.out.mono ?_
  rintro e w1 ⟨rfl, hb1⟩
  go_wp2_with fail
  go_ret
  exact ⟨rfl, hb1⟩
theorem dt_any (v : Value) (n : Nat) (F : Nat → PcI) (w : World) (hF : PcLe F n) (hr : PcArg w v n F) :
    Calls Try.prog 57 #[v] w fun e w' => e = .returned (.string (dtV F n)) ∧ Below w.heap.size w w' := by
  by_cases h : pcR F n 4000
  · rw [dtV_yes h]
    obtain ⟨a, c, rfl, hr⟩ := hr
    exact dt_yes a c n F w hF h hr
  · rw [dtV_no h]
    exact dt_no v n F w hF h hr
end Go.Proofs.Ytpeddaljgmkomaa
