/-
  Expand, of both; what the law does with the words.
-/
import Derived.Test.YtgemdegdimenialCipWith
import Derived.Test.YtgemdegdimenialCipKeysS2
import Derived.Deep.MidRow
namespace Go.Proofs.Ytgemdegdimenial
open Go.RowKit

/-- the key's words lie in block b -/
structure EW (B : Nat) (W : World) (b : Nat) (f : Nat → Nat) : Prop where
  low : B ≤ b
  lt : b < W.heap.size
  word : ∀ j, j < 60 → W.cell? ⟨b, j, none⟩ = some (.int .u32 (f j : Nat))
theorem EW.below {B b C : Nat} {W W' : World} {f : Nat → Nat} (h : EW B W b f) (hb : Below C W W') (hc : b < C) : EW B W' b f :=
  ⟨h.low, Nat.lt_of_lt_of_le h.lt hb.size, fun j hj => (hb.cell (p := ⟨b, j, none⟩) hc).trans (h.word j hj)⟩

theorem arr60_ty : Try.prog.underlying 41 = some (.array (Try.prog.arrayLen 41) (Try.prog.elem 41)) := by kernel_rfl
theorem arr60_len : Try.prog.arrayLen 41 = 60 := by kernel_rfl
theorem arr60_info : (Try.prog.info? 41).map (·.size) = some 60 := by kernel_rfl
theorem arr60_slice (W : World) (b : Nat) :
    (Instr.sliceAt 41 (.pointer (some ⟨b, 0, none⟩)) none none none).run Try.prog W = .ok (.slice (some ⟨b, 0, none⟩) 60 60) W := by
  have hsz : (sizeOf (Try.prog.elem 41)).run Try.prog W = .ok 1 W := by kernel_rfl
  rw [run_sliceAt_array_all W 41 _ arr60_ty, hsz, arr60_len]
  simp [slicedAt, Result.andThen, Addr.add]
theorem wCells_one (f : Nat → Nat) (n : Nat) : (wCells f n).toArray.all (·.oneCell') = true := by
  rw [Array.all_eq_true]
  intro i hi
  simp [wCells]
  rfl

theorem lt_of_cell {w : World} {p : Addr} {v : Value} (h : w.cell? p = some v) : p.block < w.heap.size := by
  cases hh : w.heap[p.block]? with
  | none => simp [World.cell?, hh] at h
  | some x => exact (Array.getElem?_eq_some_iff.1 hh).1
theorem sexp_no (k : ByteArray) (w : World) (h : k.size ≠ 32) :
    Calls Try.prog 9 #[.string k] w fun e w' => e = .returned (.tuple #[.slice none 0 0, .bool false]) ∧ w' = w := by
  have hks : ((k.size : Int) == 32) = false := by rw [beq_eq_false_iff_ne]; omega
  go_enter Try.func9, Try.ntmps9
  go_wp2_with fail
  go_ret2
  exact ⟨rfl, rfl⟩
theorem exp_no (k : ByteArray) (w : World) (h : k.size ≠ 32) :
    Calls Try.prog 10 #[.string k] w fun e w' => e = .returned (.tuple #[.slice none 0 0, .bool false]) ∧ w' = w := by
  have hks : ((k.size : Int) == 32) = false := by rw [beq_eq_false_iff_ne]; omega
  go_enter Try.func10, Try.ntmps10
  go_wp2_with fail
  go_ret2
  exact ⟨rfl, rfl⟩
set_option maxRecDepth 100000 in
set_option maxHeartbeats 1000000 in
theorem sexp_any (k : ByteArray) (w : World) (h : k.size = 32) :
    Calls Try.prog 9 #[.string k] w fun e w' => (∃ g cap : Nat, e = .returned (.tuple #[.slice (some ⟨g, 0, none⟩) 60 cap, .bool true]) ∧ 60 ≤ cap ∧ EW w.heap.size w' g (kw (bsOf k))) ∧ Below w.heap.size w w' := by
  have HK : Hid (k.size = 32) := h
  have hks : ((k.size : Int) == 32) = true := by rw [beq_iff_eq]; omega
  clear h
  go_enter Try.func9, Try.ntmps9
  go_wp2_with fail
  refine (stab_any _).mono ?_
  rintro e w1 ⟨⟨v, rfl, hown⟩, hb1⟩
  obtain ⟨g, cap, rfl, hg1, hg2, hg3, hcells⟩ := owns_form hown (by omega)
  have HS : Hid (Calls Try.prog 20 #[.slice (some ⟨g, 0, none⟩) 256 cap, .string k] w1 fun e w' => (∃ v, e = .returned v ∧ w'.ownsRow w1.heap.size 22 1 v 60 (wCells (kw (bsOf k)) 60)) ∧ Below w1.heap.size w1 w') := skeys_any k g cap w1 HK.out hcells hg2
  have HB1 : Hid (Below w.heap.size w w1) := hb1
  have HG : Hid (w.heap.size ≤ g ∧ g < w1.heap.size) := ⟨hg1, hg2⟩
  clear hown hcells hb1 hg1 hg2 hg3
  go_wp2_with fail
  refine HS.out.mono ?_
  rintro e w2 ⟨⟨v, rfl, hown⟩, hb2⟩
  obtain ⟨g2, cap2, rfl, hg1, hg2, hg3, hcells⟩ := owns_form hown (by omega)
  have hb0 := HB1.out
  have H : Hid (60 ≤ cap2 ∧ EW w.heap.size w2 g2 (kw (bsOf k))) := ⟨hg3, ⟨Nat.le_trans hb0.size hg1, hg2, hcells⟩⟩
  have HB : Hid (Below w.heap.size w w2) := ⟨hb2.os.trans hb0.os, hb2.tape.trans hb0.tape, hb2.output.trans hb0.output, Nat.le_trans hb0.size hb2.size, fun i hi => (hb2.block i (Nat.lt_of_lt_of_le hi hb0.size)).trans (hb0.block i hi)⟩
  clear hown hcells hb2 hg1 hg2 hg3 HS HB1 HG hb0
  go_wp2_with fail
  go_ret2
  exact ⟨⟨_, _, rfl, H.out⟩, HB.out⟩
set_option maxRecDepth 100000 in
set_option maxHeartbeats 1000000 in
theorem exp_any (k : ByteArray) (w : World) (h : k.size = 32) :
    Calls Try.prog 10 #[.string k] w fun e w' => (∃ b : Nat, e = .returned (.tuple #[.slice (some ⟨b, 0, none⟩) 60 60, .bool true]) ∧ EW w.heap.size w' b (kw (bsOf k)) ∧ ∀ j, j < 60 → w'.frozen? ⟨b, j, none⟩ = false) ∧ Below w.heap.size w w' := by
  have HK : Hid (k.size = 32) := h
  have hks : ((k.size : Int) == 32) = true := by rw [beq_iff_eq]; omega
  clear h
  obtain ⟨Z, hZ⟩ : ∃ Z : Array Value, Z = Array.replicate 60 (Value.int .u32 0) := ⟨_, rfl⟩
  have hz : ∀ w, (zeroValue 41).run Try.prog w = .ok (.agg Z) w := by rw [hZ]; exact (zero_of_info (n := 60) (by kernel_rfl)).1
  have hZs : Z.size = 60 := by rw [hZ]; simp
  have hZc : (Value.agg Z).cells = Z := by rw [hZ]; kernel_rfl
  clear hZ
  have HW : Hid (∀ w, Calls Try.prog 22 #[.string k] w fun e w' => ∃ b, e = .returned (.pointer (some ⟨b, 0, none⟩)) ∧ CW w b (kw (bsOf k)) 60 w') := fun w => with_any k w HK.out
  have hsl := arr60_slice
  generalize kw (bsOf k) = f at HW ⊢
  go_enter Try.func10, Try.ntmps10
  go_wp2_with fail
  refine (HW.out _).mono ?_
  rintro e w1 ⟨b, rfl, HC⟩
  have HR : Hid (w1.rangeAt b 0 (wCells f 60)) := fun j v hv => by
    have hj : j < 60 := by
      have := (List.getElem?_eq_some_iff.1 hv).1
      rwa [wCells_len] at this
    rw [wCells_at f hj] at hv
    rw [← hv, Nat.zero_add]
    exact HC.word j hj
  have HB1 : Hid (Below w.heap.size w w1) := HC.below
  have hcs : ((wCells f 60).toArray).size = 60 := by simp [wCells_len]
  have h1 := wCells_one f 60
  have hcat : ∀ j, j < 60 → ((wCells f 60).toArray)[j]? = some (.int .u32 (f j : Nat)) := fun j hj => by rw [List.getElem?_toArray]; exact wCells_at f hj
  have hi60 : (Try.prog.info? 41).map (·.size) = some (wCells f 60).length := by rw [wCells_len]; exact arr60_info
  have HL : Hid _ := hi60
  have H1 : Hid _ := h1
  have HCS : Hid _ := hcs
  have HCA : Hid _ := hcat
  clear HC h1 hcs hcat hi60 HW
  generalize wCells f 60 = c at HR HL H1 HCS HCA
  go_wp2_with (first
    | (refine wpList_load_mid rfl 41 _ rfl b 0 rfl c _ HR.out arr60_ty rfl HL.out ?_)
    | (refine wpList_store_row rfl 41 _ (.tmp 12) rfl w1.heap.size c.toArray rfl rfl 41 Z (by exact heap_alloc_new w1 _) (by rw [HCS.out]; exact arr60_info) (by rw [HCS.out]; exact hZs) H1.out ?_))
  have hrow := setRow_heap (w1.alloc (.cells Z 41)) w1.heap.size Z c.toArray 41 (0, 0) (heap_alloc_new w1 _)
  have hb := HB1.out
  have HE : Hid (EW w.heap.size ((w1.alloc (.cells Z 41)).setRow w1.heap.size c.toArray) w1.heap.size f ∧ (∀ j, j < 60 → ((w1.alloc (.cells Z 41)).setRow w1.heap.size c.toArray).frozen? ⟨w1.heap.size, j, none⟩ = false) ∧ Below w.heap.size w ((w1.alloc (.cells Z 41)).setRow w1.heap.size c.toArray)) :=
    ⟨⟨hb.size, (Array.getElem?_eq_some_iff.1 hrow).1, fun j hj => by rw [cell_of_row _ _ j _ _ _ hrow]; exact HCA.out j hj⟩, fun j _ => frozen_of_row _ _ j _ _ hrow,
      (hb.alloc hb.size _).trans ⟨rfl, rfl, rfl, by simp, fun k hk => setRow_other _ _ _ _ (by have := hb.size; omega)⟩⟩
  clear hrow hb
  go_ret2
  exact ⟨⟨_, rfl, HE.out.1, HE.out.2.1⟩, HE.out.2.2⟩

/-! ### the law's loops -/
theorem eq_no (w : World) : Calls Try.prog 11 #[.slice none 0 0, .slice none 0 0] w fun e w' => e = .returned (.bool true) ∧ w' = w := by
  go_enter Try.func11, Try.ntmps11
  go_wp2_with fail
  go_loopw [5] (fun c wr => c = .int .i64 0 ∧ wr = w) (fun _ _ => 0)
  case atStart => exact ⟨rfl, rfl⟩
  case round =>
    obtain ⟨rfl, rfl⟩ := hrel
    go_wp2_with fail
    go_ret
    exact ⟨rfl, rfl⟩
theorem mark_no (w : World) : Calls Try.prog 12 #[.slice none 0 0, .int .i64 1] w fun e w' => e = .returned (.int .i64 1) ∧ w' = w := by
  go_enter Try.func12, Try.ntmps12
  go_wp2_with fail
  go_loopw [1, 5] (fun k c wr => k = .int .i64 1 ∧ c = .int .i64 0 ∧ wr = w) (fun _ _ _ => 0)
  case atStart => exact ⟨rfl, rfl, rfl⟩
  case round =>
    obtain ⟨rfl, rfl, rfl⟩ := hrel
    go_wp2_with fail
    go_ret
    exact ⟨rfl, rfl⟩
theorem held_no (w : World) : Calls Try.prog 13 #[.slice none 0 0, .int .i64 1] w fun e w' => e = .returned (.int .i64 1) ∧ w' = w := by
  go_enter Try.func13, Try.ntmps13
  go_wp2_with fail
  go_loopw [1, 5] (fun k c wr => k = .int .i64 1 ∧ c = .int .i64 0 ∧ wr = w) (fun _ _ _ => 0)
  case atStart => exact ⟨rfl, rfl, rfl⟩
  case round =>
    obtain ⟨rfl, rfl, rfl⟩ := hrel
    go_wp2_with fail
    go_ret
    exact ⟨rfl, rfl⟩
theorem eq_any (g h c d : Nat) (f : Nat → Nat) (w : World) (hg : ∀ j, j < 60 → w.cell? ⟨g, j, none⟩ = some (.int .u32 (f j : Nat))) (hh : ∀ j, j < 60 → w.cell? ⟨h, j, none⟩ = some (.int .u32 (f j : Nat))) :
    Calls Try.prog 11 #[.slice (some ⟨g, 0, none⟩) 60 c, .slice (some ⟨h, 0, none⟩) 60 d] w fun e w' => e = .returned (.bool true) ∧ Below w.heap.size w w' := by
  have HG : Hid (∀ W, Below w.heap.size w W → ∀ j, j < 60 → W.cell? ⟨g, j, none⟩ = some (.int .u32 (f j : Nat))) := fun W hW j hj => (hW.cell (p := ⟨g, j, none⟩) (by exact lt_of_cell (hg j hj))).trans (hg j hj)
  have HH : Hid (∀ W, Below w.heap.size w W → ∀ j, j < 60 → W.cell? ⟨h, j, none⟩ = some (.int .u32 (f j : Nat))) := fun W hW j hj => (hW.cell (p := ⟨h, j, none⟩) (by exact lt_of_cell (hh j hj))).trans (hh j hj)
  clear hg hh
  go_enter Try.func11, Try.ntmps11
  go_wp2_with fail
  go_loopw [5] (fun c wr => ∃ n : Nat, n ≤ 60 ∧ c = .int .i64 (n : Int) ∧ Below w.heap.size w wr) (fun c _ => 60 - (cipIntOf c).toNat)
  case atStart => exact ⟨0, by omega, rfl, Below.refl _ _⟩
  case round =>
    obtain ⟨n, hn, rfl, hb⟩ := hrel
    by_cases hlt : n < 60
    · have c1 := HG.out wr hb n hlt
      have c2 := HH.out wr hb n hlt
      go_wp2_with go_region
      have HB : Hid _ := hb
      clear hb
      go_roundw
      case rel => exact ⟨n + 1, by omega, by go_num, HB.out.drew⟩
      case measure => simp [cipIntOf]; omega
    · obtain rfl : n = 60 := by omega
      go_wp2_with fail
      go_ret
      exact ⟨rfl, hb⟩
theorem held_any (g c : Nat) (w : World) (hg : ∀ j, j < 60 → w.cell? ⟨g, j, none⟩ = some (.int .u32 ((j + 1 : Nat) : Int))) :
    Calls Try.prog 13 #[.slice (some ⟨g, 0, none⟩) 60 c, .int .i64 1] w fun e w' => e = .returned (.int .i64 61) ∧ w' = w := by
  have HG : Hid _ := hg
  clear hg
  go_enter Try.func13, Try.ntmps13
  go_wp2_with fail
  go_loopw [1, 5] (fun k c wr => ∃ n : Nat, n ≤ 60 ∧ k = .int .i64 ((n + 1 : Nat) : Int) ∧ c = .int .i64 (n : Int) ∧ wr = w) (fun _ c _ => 60 - (cipIntOf c).toNat)
  case atStart => exact ⟨0, by omega, rfl, rfl, rfl⟩
  case round =>
    obtain ⟨n, hn, rfl, rfl, hw⟩ := hrel
    subst hw
    by_cases hlt : n < 60
    · have c1 := HG.out n hlt
      go_wp2_with fail
      go_roundw
      case rel => exact ⟨n + 1, by omega, by go_num, by go_num, by first | rfl | trivial⟩
      case measure => simp [cipIntOf]; omega
    · obtain rfl : n = 60 := by omega
      go_wp2_with fail
      go_ret
      exact ⟨rfl, rfl⟩

/-- the first n words of block b are marked -/
structure MW (w : World) (b n : Nat) (wr : World) : Prop where
  below : Below b w wr
  lt : b < wr.heap.size
  word : ∀ j, j < n → wr.cell? ⟨b, j, none⟩ = some (.int .u32 ((j + 1 : Nat) : Int))
  isc : ∀ j, j < 60 → (wr.cell? ⟨b, j, none⟩).isSome = true
  fz : ∀ j, j < 60 → wr.frozen? ⟨b, j, none⟩ = false
theorem MW.set {w wr : World} {b n : Nat} (h : MW w b n wr) (hn : n < 60) : MW w b (n + 1) (wr.setCell ⟨b, n, none⟩ (.int .u32 ((n + 1 : Nat) : Int))) := by
  have hin : (wr.setCell ⟨b, n, none⟩ (.int .u32 ((n + 1 : Nat) : Int))).cell? ⟨b, n, none⟩ = some (.int .u32 ((n + 1 : Nat) : Int)) := by
    have h1 := World.cell?_setCells_in b [Value.int .u32 ((n + 1 : Nat) : Int)] n wr (fun i hi => by
      have : i = 0 := by simpa using hi
      subst this
      exact h.isc n hn) 0 (by simp)
    simpa [World.setCells] using h1
  have hout : ∀ j, j ≠ n → (wr.setCell ⟨b, n, none⟩ (.int .u32 ((n + 1 : Nat) : Int))).cell? ⟨b, j, none⟩ = wr.cell? ⟨b, j, none⟩ := fun j hj => by
    have h1 := World.cell?_setCells_out b [Value.int .u32 ((n + 1 : Nat) : Int)] n wr ⟨b, j, none⟩ (fun _ _ => by simp; omega)
    simpa [World.setCells] using h1
  refine ⟨h.below.setCell (p := ⟨b, n, none⟩) (Nat.le_refl _) _, by simpa using h.lt, fun j hj => ?_, fun j hj => ?_, fun j hj => ?_⟩
  · by_cases e : j = n
    · subst e; exact hin
    · rw [hout j e]; exact h.word j (by omega)
  · by_cases e : j = n
    · subst e; rw [hin]; rfl
    · rw [hout j e]; exact h.isc j hj
  · have h1 := World.frozen?_setCells b [Value.int .u32 ((n + 1 : Nat) : Int)] n wr ⟨b, j, none⟩
    rw [← h.fz j hj]
    exact h1
theorem mark_any (b c : Nat) (w : World) (hm : MW w b 0 w) :
    Calls Try.prog 12 #[.slice (some ⟨b, 0, none⟩) 60 c, .int .i64 1] w fun e w' => e = .returned (.int .i64 61) ∧ MW w b 60 w' := by
  have HM : Hid _ := hm
  clear hm
  go_enter Try.func12, Try.ntmps12
  go_wp2_with fail
  go_loopw [1, 5] (fun k c wr => ∃ n : Nat, n ≤ 60 ∧ k = .int .i64 ((n + 1 : Nat) : Int) ∧ c = .int .i64 (n : Int) ∧ Hid (MW w b n wr)) (fun _ c _ => 60 - (cipIntOf c).toNat)
  case atStart => exact ⟨0, by omega, rfl, rfl, HM⟩
  case round =>
    obtain ⟨n, hn, rfl, rfl, HM⟩ := hrel
    by_cases hlt : n < 60
    · obtain ⟨v0, hv0⟩ := Option.isSome_iff_exists.1 (HM.out.isc n hlt)
      have hfz := HM.out.fz n hlt
      have HM2 : Hid _ := HM.out.set hlt
      go_wp2_with fail
      go_roundw
      case rel => exact ⟨n + 1, by omega, by go_num, by go_num, by exact HM2⟩
      case measure => simp [cipIntOf]; omega
    · obtain rfl : n = 60 := by omega
      go_wp2_with fail
      go_ret
      exact ⟨rfl, HM.out⟩
end Go.Proofs.Ytgemdegdimenial
