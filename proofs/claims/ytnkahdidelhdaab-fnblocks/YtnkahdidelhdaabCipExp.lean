/-
  Expand, of both; what the law does with the words.
-/
import Derived.Test.YtnkahdidelhdaabCipWith
import Derived.Test.YtnkahdidelhdaabCipKeysS2
import Derived.Deep.MidRow
namespace Go.Proofs.Ytnkahdidelhdaab
open Go.RowKit

/-- the key's words lie in block b -/
structure EW (B : Nat) (W : World) (b : Nat) (f : Nat → Nat) : Prop where
  low : B ≤ b
  lt : b < W.heap.size
  word : ∀ j, j < 60 → W.cell? ⟨b, j, none⟩ = some (.int .u32 (f j : Nat))
theorem EW.below {B b C : Nat} {W W' : World} {f : Nat → Nat} (h : EW B W b f) (hb : Below C W W') (hc : b < C) : EW B W' b f :=
  ⟨h.low, Nat.lt_of_lt_of_le h.lt hb.size, fun j hj => (hb.cell (p := ⟨b, j, none⟩) hc).trans (h.word j hj)⟩

theorem arr60_ty : Try.prog.underlying 63 = some (.array (Try.prog.arrayLen 63) (Try.prog.elem 63)) := by kernel_rfl
theorem arr60_len : Try.prog.arrayLen 63 = 60 := by kernel_rfl
theorem arr60_info : (Try.prog.info? 63).map (·.size) = some 60 := by kernel_rfl
theorem arr60_slice (W : World) (b : Nat) :
    (Instr.sliceAt 63 (.pointer (some ⟨b, 0, none⟩)) none none none).run Try.prog W = .ok (.slice (some ⟨b, 0, none⟩) 60 60) W := by
  have hsz : (sizeOf (Try.prog.elem 63)).run Try.prog W = .ok 1 W := by kernel_rfl
  rw [run_sliceAt_array_all W 63 _ arr60_ty, hsz, arr60_len]
  simp [slicedAt, Result.andThen, Addr.add]
theorem wCells_one (f : Nat → Nat) (n : Nat) : (wCells f n).toArray.all (·.oneCell') = true := by
  rw [Array.all_eq_true]
  intro i hi
  simp [wCells]
  rfl

theorem lt_of_cell {w : World} {p : Addr} {v : Value} (h : w.cell? p = some v) : p.block < w.heap.size := by
  cases hh : w.heap[p.block]? with
  | none => simp [World.cell?, hh] at h
  | some x => exact (Array.getElem?_eq_some_iff.1 hh).1
theorem exp_no (k : ByteArray) (w : World) (h : k.size ≠ 32) :
    Calls Try.prog 18 #[.string k] w fun e w' => e = .returned (.tuple #[.slice none 0 0, .bool false]) ∧ w' = w := by
  have hks : ((k.size : Int) == 32) = false := by rw [beq_eq_false_iff_ne]; omega
  go_enter Try.func18, Try.ntmps18
  go_wp2_with fail
  go_ret2
  exact ⟨rfl, rfl⟩
set_option maxRecDepth 100000 in
set_option maxHeartbeats 1000000 in
theorem exp_any (k : ByteArray) (w : World) (h : k.size = 32) :
    Calls Try.prog 18 #[.string k] w fun e w' => (∃ b : Nat, e = .returned (.tuple #[.slice (some ⟨b, 0, none⟩) 60 60, .bool true]) ∧ EW w.heap.size w' b (kw (bsOf k)) ∧ ∀ j, j < 60 → w'.frozen? ⟨b, j, none⟩ = false) ∧ Below w.heap.size w w' := by
  have HK : Hid (k.size = 32) := h
  have hks : ((k.size : Int) == 32) = true := by rw [beq_iff_eq]; omega
  clear h
  obtain ⟨Z, hZ⟩ : ∃ Z : Array Value, Z = Array.replicate 60 (Value.int .u32 0) := ⟨_, rfl⟩
  have hz : ∀ w, (zeroValue 63).run Try.prog w = .ok (.agg Z) w := by rw [hZ]; exact (zero_of_info (n := 60) (by kernel_rfl)).1
  have hZs : Z.size = 60 := by rw [hZ]; simp
  have hZc : (Value.agg Z).cells = Z := by rw [hZ]; kernel_rfl
  clear hZ
  have HW : Hid (∀ w, Calls Try.prog 33 #[.string k] w fun e w' => ∃ b, e = .returned (.pointer (some ⟨b, 0, none⟩)) ∧ CW w b (kw (bsOf k)) 60 w') := fun w => with_any k w HK.out
  have hsl := arr60_slice
  generalize kw (bsOf k) = f at HW ⊢
  go_enter Try.func18, Try.ntmps18
  go_wp2_with fail
  refine (HW.out _).mono ?_
  rintro e w1 ⟨b, rfl, HC⟩
  have HR : Hid (w1.rangeAt b 0 (wCells f 60)) := fun j v hv => by
    have hj : j < 60 := by
      have := (List.getElem?_eq_some_iff.1 hv).1
      rwa [wCells_len] at this
    rw [wCells_at f hj] at hv
    rw [← hv, Nat.zero_add]
    exact HC.word j hj
  have HB1 : Hid (Below w.heap.size w w1) := HC.below
  have hcs : ((wCells f 60).toArray).size = 60 := by simp [wCells_len]
  have h1 := wCells_one f 60
  have hcat : ∀ j, j < 60 → ((wCells f 60).toArray)[j]? = some (.int .u32 (f j : Nat)) := fun j hj => by rw [List.getElem?_toArray]; exact wCells_at f hj
  have hi60 : (Try.prog.info? 63).map (·.size) = some (wCells f 60).length := by rw [wCells_len]; exact arr60_info
  have HL : Hid _ := hi60
  have H1 : Hid _ := h1
  have HCS : Hid _ := hcs
  have HCA : Hid _ := hcat
  clear HC h1 hcs hcat hi60 HW
  generalize wCells f 60 = c at HR HL H1 HCS HCA
  go_wp2_with (first
    | (refine wpList_load_mid rfl 63 _ rfl b 0 rfl c _ HR.out arr60_ty rfl HL.out ?_)
    | (refine wpList_store_row rfl 63 _ (.tmp 12) rfl w1.heap.size c.toArray rfl rfl 63 Z (by exact heap_alloc_new w1 _) (by rw [HCS.out]; exact arr60_info) (by rw [HCS.out]; exact hZs) H1.out ?_))
  have hrow := setRow_heap (w1.alloc (.cells Z 63)) w1.heap.size Z c.toArray 63 (0, 0) (heap_alloc_new w1 _)
  have hb := HB1.out
  have HE : Hid (EW w.heap.size ((w1.alloc (.cells Z 63)).setRow w1.heap.size c.toArray) w1.heap.size f ∧ (∀ j, j < 60 → ((w1.alloc (.cells Z 63)).setRow w1.heap.size c.toArray).frozen? ⟨w1.heap.size, j, none⟩ = false) ∧ Below w.heap.size w ((w1.alloc (.cells Z 63)).setRow w1.heap.size c.toArray)) :=
    ⟨⟨hb.size, (Array.getElem?_eq_some_iff.1 hrow).1, fun j hj => by rw [cell_of_row _ _ j _ _ _ hrow]; exact HCA.out j hj⟩, fun j _ => frozen_of_row _ _ j _ _ hrow,
      (hb.alloc hb.size _).trans ⟨rfl, rfl, rfl, by simp, fun k hk => setRow_other _ _ _ _ (by have := hb.size; omega)⟩⟩
  clear hrow hb
  go_ret2
  exact ⟨⟨_, rfl, HE.out.1, HE.out.2.1⟩, HE.out.2.2⟩

/-! ### the law's loops -/
/-- the first n words of block b are marked -/
structure MW (w : World) (b n : Nat) (wr : World) : Prop where
  below : Below b w wr
  lt : b < wr.heap.size
  word : ∀ j, j < n → wr.cell? ⟨b, j, none⟩ = some (.int .u32 ((j + 1 : Nat) : Int))
  isc : ∀ j, j < 60 → (wr.cell? ⟨b, j, none⟩).isSome = true
  fz : ∀ j, j < 60 → wr.frozen? ⟨b, j, none⟩ = false
theorem MW.set {w wr : World} {b n : Nat} (h : MW w b n wr) (hn : n < 60) : MW w b (n + 1) (wr.setCell ⟨b, n, none⟩ (.int .u32 ((n + 1 : Nat) : Int))) := by
  have hin : (wr.setCell ⟨b, n, none⟩ (.int .u32 ((n + 1 : Nat) : Int))).cell? ⟨b, n, none⟩ = some (.int .u32 ((n + 1 : Nat) : Int)) := by
    have h1 := World.cell?_setCells_in b [Value.int .u32 ((n + 1 : Nat) : Int)] n wr (fun i hi => by
      have : i = 0 := by simpa using hi
      subst this
      exact h.isc n hn) 0 (by simp)
    simpa [World.setCells] using h1
  have hout : ∀ j, j ≠ n → (wr.setCell ⟨b, n, none⟩ (.int .u32 ((n + 1 : Nat) : Int))).cell? ⟨b, j, none⟩ = wr.cell? ⟨b, j, none⟩ := fun j hj => by
    have h1 := World.cell?_setCells_out b [Value.int .u32 ((n + 1 : Nat) : Int)] n wr ⟨b, j, none⟩ (fun _ _ => by simp; omega)
    simpa [World.setCells] using h1
  refine ⟨h.below.setCell (p := ⟨b, n, none⟩) (Nat.le_refl _) _, by simpa using h.lt, fun j hj => ?_, fun j hj => ?_, fun j hj => ?_⟩
  · by_cases e : j = n
    · subst e; exact hin
    · rw [hout j e]; exact h.word j (by omega)
  · by_cases e : j = n
    · subst e; rw [hin]; rfl
    · rw [hout j e]; exact h.isc j hj
  · have h1 := World.frozen?_setCells b [Value.int .u32 ((n + 1 : Nat) : Int)] n wr ⟨b, j, none⟩
    rw [← h.fz j hj]
    exact h1
end Go.Proofs.Ytnkahdidelhdaab
