/-
  Several texts of this seat as one: LkQ, PcsS, PatS.
-/
import Derived.Test.YtpeddaljgmkomaaPk15
import Derived.Test.YtpeddaljgmkomaaPk06
import Derived.Test.YtpeddaljgmkomaaPk11

/-!   Bounds of answers that are chains. -/
namespace Go.Proofs.Ytpeddaljgmkomaa
open Go.RowKit
set_option linter.unusedVariables false
theorem lkMN_small {M : List LkI} (h1 : M.length ≤ 31) (h2 : ∀ x ∈ M, x.p.length ≤ 500) : M.length ≤ 1048576 ∧ (∀ x ∈ M, x.p.length ≤ 1048576) ∧ 1 + lkMN M ≤ 4000000 := by
  refine ⟨by omega, fun x hx => by have := h2 x hx; omega, ?_⟩
  have h3 : ∀ N : List LkI, (∀ x ∈ N, x.p.length ≤ 500) → lkMN N ≤ N.length * 1502 := by
    intro N
    induction N with
    | nil => intro _; simp [lkMN]
    | cons x N ih =>
      intro h
      have h4 := ih fun y hy => h y (List.mem_cons_of_mem _ hy)
      have h5 := h x (by simp)
      unfold lkMN at h4 ⊢
      rw [List.map_cons, List.sum_cons, List.length_cons]
      have : lkM1 x ≤ 1502 := by unfold lkM1; omega
      omega
  have := h3 M h2
  omega
theorem bd_none : (([] : List LkI)).length ≤ 1048576 ∧ (∀ x ∈ ([] : List LkI), x.p.length ≤ 1048576) ∧ 1 + lkMN [] ≤ 4000000 := ⟨by simp, fun x hx => (by cases hx), by decide⟩
theorem bd_set {L : List LkI} {V : List VerI} (hl : LkLe L) (hA : vAll L = some V) (k : Nat) (x : LkI) (hx : x.p.length ≤ 500) : (L.set k x).length ≤ 1048576 ∧ (∀ y ∈ L.set k x, y.p.length ≤ 1048576) ∧ 1 + lkMN (L.set k x) ≤ 4000000 := by
  refine lkMN_small (by rw [List.length_set]; have := (vAll_some hA).1; omega) fun y hy => ?_
  rcases List.mem_or_eq_of_mem_set hy with h | rfl
  · exact (lkG_of hl hA y h).len
  · exact hx
end Go.Proofs.Ytpeddaljgmkomaa

/-!   Whether pieces are right: the specification's. -/
namespace Go.Proofs.Ytpeddaljgmkomaa
open Go.RowKit
set_option linter.unusedVariables false
set_option linter.unusedSimpArgs false
set_option maxRecDepth 100000 in
set_option maxHeartbeats 4000000 in
theorem spcs_loop (a : Option Addr) (c n : Nat) (F : Nat → PcI) (old : Int) (w : World) (ho : 0 ≤ old) (ho2 : old ≤ 4000) (hn : n ≤ 500) (hd : ∀ i, i < n → (F i).d.size ≤ 1048576) (hr : 0 < n → ∃ g, a = some ⟨g, 0, none⟩ ∧ PcRow w g n F) :
    Calls Try.prog 68 #[.int .i64 old, .slice a n c] w fun e w' => e = .returned (.bool (pcB F n old)) ∧ Below w.heap.size w w' := by
  have hnI : (n : Int) ≤ 500 := by omega
  have hnI2 : ¬ (500 : Int) < (n : Int) := by omega
  have HIY : Hid (∀ (x lo hi : Int) w, (lo ≤ x ∧ x ≤ hi) → Calls Try.prog 42 #[.int .i64 x, .int .i64 lo, .int .i64 hi] w fun e w' => e = .returned (.bool true) ∧ w' = w) := fun x lo hi w h => in_yes x lo hi w h.1 h.2
  have HIN : Hid (∀ (x lo hi : Int) w, ¬ (lo ≤ x ∧ x ≤ hi) → Calls Try.prog 42 #[.int .i64 x, .int .i64 lo, .int .i64 hi] w fun e w' => e = .returned (.bool false) ∧ w' = w) := fun x lo hi w h => in_no x lo hi w h
  have HL : Hid (∀ p w, Calls Try.prog 78 #[pcV p.f p.l p.d] w fun e w' => e = .returned (.int .i64 (pcSz p)) ∧ Below w.heap.size w w') := fun p w => slong_any p w
  unfold pcV at HL
  have HR : Hid (0 < n → ∃ g, a = some ⟨g, 0, none⟩ ∧ PcRow w g n F) := hr
  have HD : Hid (∀ i, i < n → (F i).d.size ≤ 1048576) := hd
  have HO : Hid (0 ≤ old ∧ old ≤ 4000 ∧ n ≤ 500) := ⟨ho, ho2, hn⟩
  clear hr hd
  go_enter Try.func68, Try.ntmps68
  go_wp2_with fail
  refine (HIY.out old 0 4000 _ ⟨ho, ho2⟩).mono ?_
  rintro e w1 ⟨rfl, rfl⟩
  go_wp2_with fail
  go_loopw [5, 6] (fun u v wr => ∃ (i : Nat), i ≤ n ∧ v = .int .i64 (i : Int) ∧ u = .int .i64 (pcSum F i) ∧ Hid ((∀ j, j < i → pcP (F j) old) ∧ pcSum F i ≤ 4000) ∧ Hid (Below w1.heap.size w1 wr)) (fun _ v _ => n - (intN v).toNat)
  case atStart => exact ⟨0, by omega, rfl, rfl, ⟨fun j hj => absurd hj (by omega), by show (0 : Int) ≤ 4000; omega⟩, Below.refl _ _⟩
  case round =>
    obtain ⟨i, hi, rfl, rfl, HG, HB⟩ := hrel
    by_cases hlt : i < n
    · have hltI : (i : Int) < (n : Int) := by omega
      obtain ⟨g, rfl, hrow⟩ := HR.out (by omega)
      have hrow2 := hrow.below HB.out hrow.lt
      obtain ⟨q, hq⟩ : ∃ q, q = 3 * i := ⟨_, rfl⟩
      have x0 := hrow2.c0 i hlt
      have x1 := hrow2.c1 i hlt
      have x2 := hrow2.c2 i hlt
      rw [← hq] at x0 x1 x2
      have hiq : i * 3 = q := by omega
      have HST : Hid (pcP (F i) old → ∀ j, j < i + 1 → pcP (F j) old) := fun h j hj => by
        by_cases e : j < i
        · exact HG.out.1 j e
        · obtain rfl : j = i := by omega
          exact h
      have HNO : Hid (¬ pcP (F i) old → pcB F n old = false) := fun h => pcB_no fun c => h (c.2.2.2.1 i hlt)
      have HNS : Hid (4000 < pcSum F (i + 1) → pcB F n old = false) := fun h => pcB_no fun c => by
        have h1 := pcSum_mono (i := i + 1) (n := n) (by omega) c.2.2.2.1
        have h2 := c.2.2.2.2
        omega
      have HSS : Hid (pcSum F (i + 1) = pcSum F i + pcSz (F i)) := rfl
      have b1 := pcSum_le ho2 (fun j hj => HD.out j (by omega)) HG.out.1
      have hdi := HD.out i hlt
      have hi500 : (i : Int) ≤ 500 := by omega
      obtain ⟨X, hX⟩ : ∃ X, X = pcSum F i := ⟨_, rfl⟩
      rw [← hX] at b1 HSS ⊢
      have HIX : Hid (0 ≤ X ∧ X ≤ i * 1048576 ∧ i ≤ 500) := ⟨b1.1, b1.2, by omega⟩
      clear hrow hrow2 hq HG hX b1 hi500
      generalize F i = p at x0 x1 x2 HST HNO HSS hdi
      have HL2 : Hid (∀ w, _) := HL.out p
      have HB1 : Hid (Below w1.heap.size w1 (wr.alloc (.cells #[.int .i64 p.f, .int .i64 p.l, .string p.d] 89))) := HB.out.alloc HB.out.size _
      have HDI : Hid (p.d.size ≤ 1048576) := hdi
      clear hdi HL
      by_cases hp : pcP p old
      · have HST2 : Hid (∀ j, j < i + 1 → pcP (F j) old) := HST.out hp
        have b2 := pcP_pos hp
        have b3 := pcP_le hp ho2 HDI.out
        have hx := HIX.out
        obtain ⟨Y, hY⟩ : ∃ Y, Y = pcSz p := ⟨_, rfl⟩
        rw [← hY] at HL2 HSS b2 b3
        have hw : IntKind.i64.wrap (X + Y) = X + Y := by rw [IntKind.wrap_i64]; omega
        clear hx b2 b3 hY HST HNO
        obtain ⟨f, l, d⟩ := p
        simp only at x0 x1 x2 HL2 HB1
        rcases hp with ⟨h, h1, h2, h3, h4⟩ | ⟨h, h1, h2⟩
        · simp only at h h1 h2 h3 h4
          subst h
          have hwo : IntKind.i64.wrap (old - f) = old - f := by rw [IntKind.wrap_i64]; omega
          go_wp2_with fail
          refine (HIY.out f 0 old _ ⟨h3, by omega⟩).mono ?_
          rintro e w2 ⟨rfl, hw2⟩
          subst w2
          go_wp2_with fail
          refine (HIY.out l 1 (old - f) _ ⟨h1, by omega⟩).mono ?_
          rintro e w2 ⟨rfl, hw2⟩
          subst w2
          go_wp2_with fail
          refine (HL2.out _).mono ?_
          rintro e w3 ⟨rfl, hb3⟩
          have HB3 : Hid (Below w1.heap.size w1 w3) := bl3 HB1.out hb3 HB1.out.size
          clear hb3 x0 x1 x2 HB HB1
          by_cases h5 : X + Y ≤ 4000
          · have h5I : ¬ 4000 < X + Y := by omega
            have H5 : Hid (pcSum F (i + 1) ≤ 4000) := by rw [HSS.out]; exact h5
            clear h5
            go_wp2_with fail
            go_roundw
            case rel => exact ⟨i + 1, by omega, by go_num, by rw [HSS.out], ⟨HST2.out, H5.out⟩, HB3⟩
            case measure => simp [intN]; omega
          · have h5I : 4000 < X + Y := by omega
            have H5 : Hid (pcB F n old = false) := HNS.out (by rw [HSS.out]; exact h5I)
            clear h5
            go_wp2_with fail
            go_ret
            exact ⟨by rw [H5.out]; rfl, HB3.out⟩
        · simp only at h h1 h2
          subst h1 h2
          have he := d_ne h
          clear h
          go_wp2_with fail
          refine (HL2.out _).mono ?_
          rintro e w3 ⟨rfl, hb3⟩
          have HB3 : Hid (Below w1.heap.size w1 w3) := bl3 HB1.out hb3 HB1.out.size
          clear hb3 x0 x1 x2 HB HB1
          by_cases h5 : X + Y ≤ 4000
          · have h5I : ¬ 4000 < X + Y := by omega
            have H5 : Hid (pcSum F (i + 1) ≤ 4000) := by rw [HSS.out]; exact h5
            clear h5
            go_wp2_with fail
            go_roundw
            case rel => exact ⟨i + 1, by omega, by go_num, by rw [HSS.out], ⟨HST2.out, H5.out⟩, HB3⟩
            case measure => simp [intN]; omega
          · have h5I : 4000 < X + Y := by omega
            have H5 : Hid (pcB F n old = false) := HNS.out (by rw [HSS.out]; exact h5I)
            clear h5
            go_wp2_with fail
            go_ret
            exact ⟨by rw [H5.out]; rfl, HB3.out⟩
      · have HNN : Hid (pcB F n old = false) := HNO.out hp
        clear HST HNO HSS HIX HL2
        obtain ⟨f, l, d⟩ := p
        unfold pcP at hp
        simp only at x0 x1 x2 HB1 hp
        by_cases hde : d = ⟨#[]⟩
        · subst hde
          by_cases c1 : 0 ≤ f ∧ f ≤ old
          · have hwo : IntKind.i64.wrap (old - f) = old - f := by rw [IntKind.wrap_i64]; omega
            have c2 : ¬ (1 ≤ l ∧ l ≤ old - f) := fun c => hp (Or.inl ⟨rfl, c.1, by omega, c1.1, by omega⟩)
            clear hp
            go_wp2_with fail
            refine (HIY.out f 0 old _ c1).mono ?_
            rintro e w2 ⟨rfl, hw2⟩
            subst w2
            go_wp2_with fail
            refine (HIN.out l 1 (old - f) _ c2).mono ?_
            rintro e w2 ⟨rfl, hw2⟩
            subst w2
            go_wp2_with fail
            go_ret
            exact ⟨by rw [HNN.out]; rfl, HB1.out⟩
          · clear hp
            go_wp2_with fail
            refine (HIN.out f 0 old _ c1).mono ?_
            rintro e w2 ⟨rfl, hw2⟩
            subst w2
            go_wp2_with fail
            go_ret
            exact ⟨by rw [HNN.out]; rfl, HB1.out⟩
        · have he := d_ne hde
          by_cases c1 : f = 0
          · subst c1
            by_cases c2 : l = 0
            · exact absurd (Or.inr ⟨hde, rfl, c2⟩) hp
            · have e2 := beq_eq_false_iff_ne.2 c2
              clear hp hde
              go_wp2_with fail
              go_ret
              exact ⟨by rw [HNN.out]; rfl, HB1.out⟩
          · have e1 := beq_eq_false_iff_ne.2 c1
            clear hp hde
            go_wp2_with fail
            go_ret
            exact ⟨by rw [HNN.out]; rfl, HB1.out⟩
    · obtain rfl : i = n := by omega
      have HQ : Hid (pcB F i old = true) := pcB_yes ⟨HO.out.1, HO.out.2.1, HO.out.2.2, HG.out.1, HG.out.2⟩
      clear HG
      generalize pcSum F i = X
      go_wp2_with fail
      go_ret
      exact ⟨by rw [HQ.out]; rfl, HB.out⟩
set_option maxRecDepth 100000 in
set_option maxHeartbeats 1000000 in
theorem spcs_bad (a : Option Addr) (c n : Nat) (F : Nat → PcI) (old : Int) (w : World) (h : ¬ (0 ≤ old ∧ old ≤ 4000 ∧ n ≤ 500)) :
    Calls Try.prog 68 #[.int .i64 old, .slice a n c] w fun e w' => e = .returned (.bool (pcB F n old)) ∧ Below w.heap.size w w' := by
  rw [pcB_no fun c => h ⟨c.1, c.2.1, c.2.2.1⟩]
  by_cases h1 : 0 ≤ old ∧ old ≤ 4000
  · have h3 : ¬ n ≤ 500 := fun c => h ⟨h1.1, h1.2, c⟩
    have h3I : (500 : Int) < (n : Int) := by omega
    have HI : Hid (∀ w, Calls Try.prog 42 #[.int .i64 old, .int .i64 0, .int .i64 4000] w fun e w' => e = .returned (.bool true) ∧ w' = w) := fun w => in_yes old 0 4000 w h1.1 h1.2
    clear h h3 h1
    go_enter Try.func68, Try.ntmps68
    go_wp2_with fail
    refine (HI.out _).mono ?_
    rintro e w1 ⟨rfl, rfl⟩
    go_wp2_with fail
    go_ret
    exact ⟨rfl, Below.refl _ _⟩
  · have HI : Hid (∀ w, Calls Try.prog 42 #[.int .i64 old, .int .i64 0, .int .i64 4000] w fun e w' => e = .returned (.bool false) ∧ w' = w) := fun w => in_no old 0 4000 w h1
    clear h h1
    go_enter Try.func68, Try.ntmps68
    go_wp2_with fail
    refine (HI.out _).mono ?_
    rintro e w1 ⟨rfl, rfl⟩
    go_wp2_with fail
    go_ret
    exact ⟨rfl, Below.refl _ _⟩
theorem spcs_any (v : Value) (n : Nat) (F : Nat → PcI) (old : Int) (w : World) (hF : PcLe F n) (h : PcArg w v n F) :
    Calls Try.prog 68 #[.int .i64 old, v] w fun e w' => e = .returned (.bool (pcB F n old)) ∧ Below w.heap.size w w' := by
  obtain ⟨a, c, rfl, hr⟩ := h
  by_cases h : 0 ≤ old ∧ old ≤ 4000 ∧ n ≤ 500
  · exact spcs_loop a c n F old w h.1 h.2.1 h.2.2 hF.d hr
  · exact spcs_bad a c n F old w h
end Go.Proofs.Ytpeddaljgmkomaa

/-!   What pieces make: the specification's. -/
namespace Go.Proofs.Ytpeddaljgmkomaa
open Go.RowKit
set_option linter.unusedVariables false
set_option linter.unusedSimpArgs false
set_option maxRecDepth 100000 in
set_option maxHeartbeats 2000000 in
theorem spat9 (old : ByteArray) (a : Option Addr) (c n : Nat) (F : Nat → PcI) (w : World) (hok : pcR F n (old.size : Int)) (hr : 0 < n → ∃ g, a = some ⟨g, 0, none⟩ ∧ PcRow w g n F) :
    Calls Try.prog 69 #[.string old, .slice a n c] w fun e w' => e = .returned (.string (patB old F n)) ∧ Below w.heap.size w w' := by
  have hnI : (n : Int) ≤ 500 := by have := hok.2.2.1; omega
  have HR : Hid (∀ w', Below w.heap.size w w' → 0 < n → ∃ g, a = some ⟨g, 0, none⟩ ∧ PcRow w' g n F) := fun w' hb h0 => by
    obtain ⟨g, h1, h2⟩ := hr h0
    exact ⟨g, h1, h2.below hb h2.lt⟩
  have HO : Hid (pcR F n (old.size : Int)) := hok
  clear hr hok
  go_enter Try.func69, Try.ntmps69
  go_wp2_with fail
  go_loopw [5, 6] (fun u v wr => ∃ (i : Nat), i ≤ n ∧ v = .int .i64 (i : Int) ∧ u = .string (patB old F i) ∧ Hid (Below w.heap.size w wr)) (fun _ v _ => n - (intN v).toNat)
  case atStart => exact ⟨0, by omega, rfl, rfl, Below.refl _ _⟩
  case round =>
    obtain ⟨i, hi, rfl, rfl, HB⟩ := hrel
    by_cases hlt : i < n
    · have hltI : (i : Int) < (n : Int) := by omega
      obtain ⟨g, rfl, hrow⟩ := HR.out _ HB.out (by omega)
      obtain ⟨q, hq⟩ : ∃ q, q = 3 * i := ⟨_, rfl⟩
      have x0 := hrow.c0 i hlt
      have x1 := hrow.c1 i hlt
      have x2 := hrow.c2 i hlt
      rw [← hq] at x0 x1 x2
      have hiq : i * 3 = q := by omega
      have hp := HO.out.2.2.2.1 i hlt
      have hle := patB_le HO.out (i := i) (by omega)
      have hle2 := patB_le HO.out (i := i + 1) (by omega)
      have HST : Hid (patB old F (i + 1) = patB old F i ++ pcTx old (F i)) := rfl
      have hb0 : ∀ X, Below w.heap.size w (wr.alloc X) := fun X => HB.out.alloc HB.out.size _
      have HB0 : Hid _ := hb0
      have hold := HO.out.2.1
      clear hrow hq hb0 HB
      generalize F i = p at x0 x1 x2 hp HST
      rw [HST.out] at hle2
      generalize patB old F i = acc at hle hle2 HST ⊢
      obtain ⟨f, l, d⟩ := p
      simp only at x0 x1 x2
      rcases hp with ⟨h, h1, h2, h3, h4⟩ | ⟨h, h1, h2⟩
      · simp only at h h1 h2 h3 h4
        subst h
        rw [pcTx_no rfl] at hle2 HST
        have hwo : IntKind.i64.wrap (f + l) = f + l := by rw [IntKind.wrap_i64]; omega
        obtain ⟨f2, rfl⟩ : ∃ f2 : Nat, f = (f2 : Int) := ⟨f.toNat, by omega⟩
        obtain ⟨l2, rfl⟩ : ∃ l2 : Nat, l = (l2 : Int) := ⟨l.toNat, by omega⟩
        have e1 : (f2 : Int) + (l2 : Int) = ((f2 + l2 : Nat) : Int) := by omega
        simp only [e1, Int.toNat_natCast] at hle2 HST hwo
        have hs1 : f2 ≤ f2 + l2 := by omega
        have hs2 : f2 + l2 ≤ old.size := by omega
        obtain ⟨z, hz⟩ : ∃ z, z = f2 + l2 := ⟨_, rfl⟩
        rw [← hz] at e1 hle2 HST hwo hs1 hs2
        have hs1I : (f2 : Int) ≤ (z : Int) := by omega
        have hs2I : (z : Int) ≤ (old.size : Int) := by omega
        clear hz h1 h2 h3 h4
        have hle3 := hle2
        rw [ByteArray.size_append, ByteArray.size_extract] at hle3
        go_wp2_with fail
        go_roundw
        case rel => exact ⟨i + 1, by omega, by go_num, by rw [HST.out]; try rfl, HB0.out _⟩
        case measure => simp [intN]; omega
      · simp only at h h1 h2
        subst h1 h2
        rw [pcTx_yes h] at hle2 HST
        have he := d_ne h
        simp only at he hle2 HST
        rw [ByteArray.size_append] at hle2
        clear h
        go_wp2_with fail
        go_roundw
        case rel => exact ⟨i + 1, by omega, by go_num, by rw [HST.out]; try rfl, HB0.out _⟩
        case measure => simp [intN]; omega
    · obtain rfl : i = n := by omega
      go_wp2_with fail
      go_ret
      exact ⟨rfl, HB.out⟩
end Go.Proofs.Ytpeddaljgmkomaa
