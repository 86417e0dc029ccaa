/-
  What cipherWith answers: a key's words, and the table.
-/
import Derived.Test.YtnkahdidelhdaacGreatDoorCipKeys
namespace Go.Proofs.YtnkahdidelhdaacGreatDoor
open Go.RowKit

/-- the block of a cipher -/
structure CW (w : World) (b : Nat) (W : Nat → Nat) (n : Nat) (wr : World) : Prop where
  below : Below w.heap.size w wr
  low : w.heap.size ≤ b
  lt : b < wr.heap.size
  word : ∀ j, j < n → wr.cell? ⟨b, j, none⟩ = some (.int .u32 (W j : Nat))
  isc : ∀ j, j < 60 → (wr.cell? ⟨b, j, none⟩).isSome = true
  box : ∀ j, j < 256 → wr.cell? ⟨b, 60 + j, none⟩ = some (.int .u32 (sbox j : Nat))
  fz : ∀ j, j < 60 → wr.frozen? ⟨b, j, none⟩ = false
theorem CW.drew {w wr : World} {b n : Nat} {W : Nat → Nat} (h : CW w b W n wr) : CW w b W n wr.drew := ⟨h.below.drew, h.low, h.lt, h.word, h.isc, h.box, h.fz⟩
theorem CW.set {w wr : World} {b n : Nat} {W : Nat → Nat} (h : CW w b W n wr) (hn : n < 60) : CW w b W (n + 1) (wr.setCell ⟨b, n, none⟩ (.int .u32 (W n : Nat))) := by
  have hin : (wr.setCell ⟨b, n, none⟩ (.int .u32 (W n : Nat))).cell? ⟨b, n, none⟩ = some (.int .u32 (W n : Nat)) := by
    have h1 := World.cell?_setCells_in b [Value.int .u32 (W n : Nat)] n wr (fun i hi => by
      have : i = 0 := by simpa using hi
      subst this
      exact h.isc n hn) 0 (by simp)
    simpa [World.setCells] using h1
  have hout : ∀ j, j ≠ n → (wr.setCell ⟨b, n, none⟩ (.int .u32 (W n : Nat))).cell? ⟨b, j, none⟩ = wr.cell? ⟨b, j, none⟩ := fun j hj => by
    have h1 := World.cell?_setCells_out b [Value.int .u32 (W n : Nat)] n wr ⟨b, j, none⟩ (fun _ _ => by simp; omega)
    simpa [World.setCells] using h1
  refine ⟨h.below.setCell (p := ⟨b, n, none⟩) h.low _, h.low, by simpa using h.lt, fun j hj => ?_, fun j hj => ?_, fun j hj => ?_, fun j hj => ?_⟩
  · by_cases e : j = n
    · subst e; exact hin
    · rw [hout j e]; exact h.word j (by omega)
  · by_cases e : j = n
    · subst e; rw [hin]; rfl
    · rw [hout j e]; exact h.isc j hj
  · rw [hout _ (by omega)]; exact h.box j hj
  · have h1 := World.frozen?_setCells b [Value.int .u32 (W n : Nat)] n wr ⟨b, j, none⟩
    rw [← h.fz j hj]
    exact h1

theorem fold_set (base : Nat) : ∀ (l : List Value) (k : Nat) (cs : Array Value),
    ((l.zipIdx k).foldl (fun cs x => cs.setIfInBounds (base + x.snd) x.fst) cs).size = cs.size ∧
    ∀ j, ((l.zipIdx k).foldl (fun cs x => cs.setIfInBounds (base + x.snd) x.fst) cs)[j]? = if base + k ≤ j ∧ j < base + k + l.length ∧ j < cs.size then l[j - base - k]? else cs[j]?
  | [], k, cs => ⟨rfl, fun j => by rw [if_neg (by simp; omega)]; rfl⟩
  | a :: l, k, cs => by
    obtain ⟨h1, h2⟩ := fold_set base l (k + 1) (cs.setIfInBounds (base + k) a)
    refine ⟨by rw [List.zipIdx_cons, List.foldl_cons]; simpa using h1, fun j => ?_⟩
    rw [List.zipIdx_cons, List.foldl_cons, h2 j, Array.size_setIfInBounds]
    by_cases e : base + k = j
    · subst e
      rw [if_neg (by omega)]
      by_cases hs : base + k < cs.size
      · rw [Array.getElem?_setIfInBounds_self_of_lt hs, if_pos ⟨by omega, by simp, hs⟩, show base + k - base - k = 0 by omega]; rfl
      · rw [if_neg (by omega), Array.getElem?_eq_none (by simpa using Nat.not_lt.1 hs), Array.getElem?_eq_none (Nat.not_lt.1 hs)]
    · rw [Array.getElem?_setIfInBounds_ne e]
      by_cases h : base + (k + 1) ≤ j ∧ j < base + (k + 1) + l.length ∧ j < cs.size
      · rw [if_pos h, if_pos ⟨by omega, by rw [List.length_cons]; omega, h.2.2⟩, show j - base - k = (j - base - (k + 1)) + 1 by omega, List.getElem?_cons_succ]
      · rw [if_neg h, if_neg (by rw [List.length_cons]; omega)]
theorem fold_arr (Z S : Array Value) (hS : S.size = 256) :
    Array.foldl (fun cs x => cs.setIfInBounds (60 + x.snd) x.fst) Z S.zipIdx 0 256 = (S.toList.zipIdx 0).foldl (fun cs x => cs.setIfInBounds (60 + x.snd) x.fst) Z := by
  have e : (256 : Nat) = S.zipIdx.size := by rw [Array.size_zipIdx, hS]
  rw [e, ← Array.foldl_toList, Array.toList_zipIdx]

set_option linter.unusedSimpArgs false in
set_option maxRecDepth 100000 in
set_option maxHeartbeats 1000000 in
theorem with_any (k : ByteArray) (w : World) (hk : k.size = 32) :
    Calls Tryz.prog 61 #[.string k] w fun e w' => ∃ b, e = .returned (.pointer (some ⟨b, 0, none⟩)) ∧ CW w b (kw (bsOf k)) 60 w' := by
  have HK : Hid (k.size = 32) := hk
  obtain ⟨Z, hZ⟩ : ∃ Z : Array Value, Z = Array.replicate 316 (Value.int .u32 0) := ⟨_, rfl⟩
  have hz : ∀ w, (zeroValue 121).run Tryz.prog w = .ok (.agg Z) w := by rw [hZ]; exact (zero_of_info (n := 316) (by kernel_rfl)).1
  have hZs : Z.size = 316 := by rw [hZ]; simp
  have hZc : (Value.agg Z).cells = Z := by rw [hZ]; kernel_rfl
  have HZ : Hid (Z = Array.replicate 316 (Value.int .u32 0)) := hZ
  clear hZ
  have HT : Hid (∀ w, Calls Tryz.prog 73 #[] w fun e w' => e = .returned (.agg sbTab) ∧ Below w.heap.size w w') := fun w => tab_any w
  have hSs := sbTab_size
  have HSAT : Hid (∀ j, j < 256 → sbTab[j]? = some (.int .u32 (sbox j : Nat))) := fun j hj => sbTab_at j hj
  generalize sbTab = S at HT hSs HSAT
  go_enter Tryz.func61, Tryz.ntmps61
  go_wp2_with fail
  refine (HT.out _).mono ?_
  rintro e w1 ⟨rfl, hb1⟩
  have hfs := fold_set 60 S.toList 0 Z
  rw [← fold_arr Z S hSs] at hfs
  have HFS : Hid _ := hfs
  clear hfs
  go_wp2_with fail
  have HFS2 := HFS.out
  generalize Array.foldl (fun cs x => cs.setIfInBounds (60 + x.snd) x.fst) Z S.zipIdx 0 256 = C at HFS2 ⊢
  have hCs : C.size = 316 := by rw [HFS2.1, hZs]
  have hC1 : ∀ j, j < 60 → C[j]? = some (.int .u32 0) := fun j hj => by
    rw [HFS2.2 j, if_neg (by omega), HZ.out, Array.getElem?_replicate, if_pos (by omega)]
  have hC2 : ∀ j, j < 256 → C[60 + j]? = some (.int .u32 (sbox j : Nat)) := fun j hj => by
    rw [HFS2.2 (60 + j), if_pos ⟨by omega, by simp [hSs]; omega, by omega⟩, show 60 + j - 60 - 0 = j by omega, Array.getElem?_toList]
    exact HSAT.out j hj
  have hat : ∀ j, (w1.alloc (.cells C 121)).cell? ⟨w1.heap.size, j, none⟩ = C[j]? := fun j => World.cell?_alloc_mark w1 C _ _ j
  have HC0 : Hid (CW w w1.heap.size (kw (bsOf k)) 0 (w1.alloc (.cells C 121))) :=
    ⟨hb1.alloc hb1.size _, hb1.size, by simp, fun j hj => absurd hj (by omega), fun j hj => by rw [hat, hC1 j hj]; rfl, fun j hj => by rw [hat, hC2 j hj], fun j _ => frozen_of_row _ _ j C _ (heap_alloc_new w1 _)⟩
  clear HFS HFS2 hC1 hC2 hat hCs hb1 hZs hZc hz HSAT hSs HT HZ
  generalize w1.alloc (.cells C 121) = W2 at HC0 ⊢
  generalize w1.heap.size = b at HC0 ⊢
  go_loopw [11] (fun c wr => ∃ n : Nat, n ≤ 8 ∧ c = .int .i64 (n : Int) ∧ Hid (CW w b (kw (bsOf k)) n wr)) (fun c _ => 8 - (cipIntOf c).toNat)
  case atStart => exact ⟨0, by omega, rfl, HC0⟩
  case round =>
    obtain ⟨n, hn, rfl, HC⟩ := hrel
    clear HC0
    by_cases hlt : n < 8
    · have hcs := HC.out.isc n (by omega)
      obtain ⟨v0, hv0⟩ := Option.isSome_iff_exists.1 hcs
      have hfz := HC.out.fz n (by omega)
      clear hcs
      go_wp2_with fail
      refine wp_region_any (by kernel_rfl) ?_
      change wpAny _ _ _ _ _ _ _ (World.drew _)
      refine wpAny_take (i := 0) (v := .pointer (some ⟨b, 0, none⟩)) rfl (by kernel_rfl) (by kernel_rfl) (by kernel_rfl) (fun _ _ _ h => h) (Or.inl ⟨by rfl, by intro w; go_simp⟩) ?_
      (try simp only [List.getElem_toArray, List.getElem_cons_succ, List.getElem_cons_zero, Act.put, List.setIfInBounds_toArray, List.set_cons_zero, List.set_cons_succ])
      refine wpAny_take (i := 1) (v := .int .i64 (n : Int)) rfl (by kernel_rfl) (by kernel_rfl) (by kernel_rfl) (fun _ _ _ h => h) (Or.inl ⟨by rfl, by intro w; go_simp⟩) ?_
      (try simp only [List.getElem_toArray, List.getElem_cons_succ, List.getElem_cons_zero, Act.put, List.setIfInBounds_toArray, List.set_cons_zero, List.set_cons_succ])
      refine wpAny_take (i := 2) (v := .string k) rfl (by kernel_rfl) (by kernel_rfl) (by kernel_rfl) (fun _ _ _ h => h) (Or.inl ⟨by rfl, by intro w; go_simp⟩) ?_
      (try simp only [List.getElem_toArray, List.getElem_cons_succ, List.getElem_cons_zero, Act.put, List.setIfInBounds_toArray, List.set_cons_zero, List.set_cons_succ])
      refine wpAny_take (i := 3) (v := .int .i64 (n : Int)) rfl (by kernel_rfl) (by kernel_rfl) (by kernel_rfl) (fun _ _ _ h => h) (Or.inl ⟨by rfl, by intro w; go_simp⟩) ?_
      (try simp only [List.getElem_toArray, List.getElem_cons_succ, List.getElem_cons_zero, Act.put, List.setIfInBounds_toArray, List.set_cons_zero, List.set_cons_succ])
      refine wpAny_take (i := 5) (v := .pointer (some ⟨b, 0, none⟩)) rfl (by kernel_rfl) (by kernel_rfl) (by kernel_rfl) (fun _ _ _ h => h) (Or.inl ⟨by rfl, by intro w; go_simp⟩) ?_
      (try simp only [List.getElem_toArray, List.getElem_cons_succ, List.getElem_cons_zero, Act.put, List.setIfInBounds_toArray, List.set_cons_zero, List.set_cons_succ])
      refine wpAny_take (i := 6) (v := .pointer (some ⟨b, 0, none⟩)) rfl (by kernel_rfl) (by kernel_rfl) (by kernel_rfl) (fun _ _ _ h => h) (Or.inl ⟨by rfl, by intro w; go_simp⟩) ?_
      (try simp only [List.getElem_toArray, List.getElem_cons_succ, List.getElem_cons_zero, Act.put, List.setIfInBounds_toArray, List.set_cons_zero, List.set_cons_succ])
      refine wpAny_ready (rs := [4]) (by kernel_rfl) (by simp) ?_
      refine AllReady.cons rfl (fun K hK => ?_) AllReady.nil
      rw [if_pos (by rfl)]
      go_simp
      refine (word_any k n _ (by rw [HK.out]; omega) (by omega)).mono ?_
      rintro e w' ⟨rfl, hw⟩
      subst w'
      refine hK _ _ ?_
      clear hK K
      (try simp only [List.getElem_toArray, List.getElem_cons_succ, List.getElem_cons_zero, Act.put, List.setIfInBounds_toArray, List.set_cons_zero, List.set_cons_succ])
      refine wpAny_take (i := 7) (v := .pointer (some ⟨b, n, none⟩)) rfl (by kernel_rfl) (by kernel_rfl) (by kernel_rfl) (fun _ _ _ h => h) (Or.inl ⟨by rfl, by intro w; go_simp; omega⟩) ?_
      (try simp only [List.getElem_toArray, List.getElem_cons_succ, List.getElem_cons_zero, Act.put, List.setIfInBounds_toArray, List.set_cons_zero, List.set_cons_succ])
      refine wpAny_ready (rs := [8]) (by kernel_rfl) (by simp) ?_
      refine AllReady.cons rfl (fun K hK => ?_) AllReady.nil
      rw [if_pos (by rfl)]
      go_simp
      have HC2 : Hid (CW w b (kw (bsOf k)) (n + 1) (wr.drew.setCell ⟨b, n, none⟩ (.int .u32 (pt (bsOf k) n 4 : Nat)))) := by
        have h := HC.out.drew.set (by omega)
        rw [kw_low hlt] at h
        exact h
      refine hK _ _ ?_
      clear hK K
      (try simp only [List.getElem_toArray, List.getElem_cons_succ, List.getElem_cons_zero, Act.put, List.setIfInBounds_toArray, List.set_cons_zero, List.set_cons_succ])
      refine wpAny_done (by kernel_rfl) ?_ _
      go_wp2_with fail
      go_roundw
      case rel => exact ⟨n + 1, by omega, by go_num, HC2⟩
      case measure => simp [cipIntOf]; omega
    · obtain rfl : n = 8 := by omega
      go_wp2_with fail
      go_loopw [5] (fun c wr => ∃ n : Nat, 8 ≤ n ∧ n ≤ 60 ∧ c = .int .i64 (n : Int) ∧ Hid (CW w b (kw (bsOf k)) n wr)) (fun c _ => 60 - (cipIntOf c).toNat)
      case atStart => exact ⟨8, by omega, by omega, rfl, HC⟩
      case round =>
        obtain ⟨n, hn8, hn, rfl, HC⟩ := hrel
        by_cases hlt : n < 60
        · have c1 := HC.out.word (n - 1) (by omega)
          have c8 := HC.out.word (n - 8) (by omega)
          have l1 := kw_lt (bsOf_lt k) (n - 1) (by omega)
          have l8 := kw_lt (bsOf_lt k) (n - 8) (by omega)
          obtain ⟨v0, hv0⟩ := Option.isSome_iff_exists.1 (HC.out.isc n hlt)
          have hfz := HC.out.fz n hlt
          have HBX : Hid (∀ W, (∀ j, j < 256 → W.cell? ⟨b, 60 + j, none⟩ = some (.int .u32 (sbox j : Nat))) → ∀ x : Nat, x < 4294967296 → Calls Tryz.prog 75 #[.pointer (some ⟨b, 0, none⟩), .int .u32 (x : Int)] W fun e w' => e = .returned (.int .u32 (subW x : Nat)) ∧ w' = W.drew) := fun W hW x hx => subst_any b x W hx hW
          have HCW : Hid (∀ v : Nat, kw (bsOf k) n = v → CW w b (kw (bsOf k)) (n + 1) (wr.setCell ⟨b, n, none⟩ (.int .u32 (v : Int)))) := fun v hv => by
            rw [← hv]; exact HC.out.set hlt
          by_cases h0 : n % 8 = 0
          · have HKW : Hid _ := kw_zero (bs := bsOf k) (j := n) (by omega) h0
            have hp := rcon_lt hlt
            have hsh : (2 : Int) ^ (23 + n / 8) % 4294967296 = ((2 ^ (23 + n / 8) : Nat) : Int) := by
              have e : (2 : Int) ^ (23 + n / 8) = ((2 ^ (23 + n / 8) : Nat) : Int) := by rw [Int.natCast_pow]; rfl
              rw [e]; exact Int.emod_eq_of_lt (Int.natCast_nonneg _) (Int.ofNat_lt.2 hp)
            generalize kw (bsOf k) (n - 1) = x1 at c1 l1 HKW
            generalize kw (bsOf k) (n - 8) = x8 at c8 l8 HKW
            generalize 2 ^ (23 + n / 8) = P at hp hsh HKW
            have hq := xor32 l8 hp
            have hx1 : bits .xor .u32 (x8 : Int) (P : Int) = ((x8 ^^^ P : Nat) : Int) := u32_xor_nat _ _ l8 hp
            generalize x8 ^^^ P = q at hq hx1 HKW
            have hr8 := rl8_lt l1
            have hs8 := subW_lt hr8
            have hx2 : bits .xor .u32 (q : Int) ((subW (rl8 x1) : Nat) : Int) = ((q ^^^ subW (rl8 x1) : Nat) : Int) := u32_xor_nat _ _ hq hs8
            have HCS : Hid (CW w b (kw (bsOf k)) (n + 1) (wr.setCell ⟨b, n, none⟩ (.int .u32 ((q ^^^ subW (rl8 x1) : Nat) : Int)))) := HCW.out _ HKW.out
            generalize q ^^^ subW (rl8 x1) = z at hx2 HCS
            have HR : Hid (∀ w, Calls Tryz.prog 74 #[.int .u32 (x1 : Int), .int .i64 8] w fun e w' => e = .returned (.int .u32 (rl8 x1 : Nat)) ∧ w' = w) := fun w => rl8_any x1 w l1
            have HX : Hid (∀ W, (∀ j, j < 256 → W.cell? ⟨b, 60 + j, none⟩ = some (.int .u32 (sbox j : Nat))) → Calls Tryz.prog 75 #[.pointer (some ⟨b, 0, none⟩), .int .u32 ((rl8 x1 : Nat) : Int)] W fun e w' => e = .returned (.int .u32 (subW (rl8 x1) : Nat)) ∧ w' = W.drew) := fun W hW => HBX.out W hW _ hr8
            clear HKW HCW HBX
            generalize subW (rl8 x1) = s1 at hs8 hx2 HX
            generalize rl8 x1 = y1 at hr8 HR HX
            have he : ((n : Int) % 8 == 0) = true := by rw [beq_iff_eq]; omega
            go_wp2_with fail
            go_region
            go_wp2_with fail
            refine (HR.out _).mono ?_
            rintro e w' ⟨rfl, hw⟩
            subst w'
            go_wp2_with fail
            refine (HX.out _ HC.out.drew.box).mono ?_
            rintro e w' ⟨rfl, hw⟩
            subst w'
            go_wp2_with fail
            go_roundw
            case rel =>
              first
                | exact ⟨n + 1, by omega, by omega, by go_num, HCS⟩
                | exact ⟨n + 1, by omega, by omega, by go_num, HCS.out.drew⟩
                | exact ⟨n + 1, by omega, by omega, by go_num, HCS.out.drew.drew⟩
                | (repeat apply Exists.intro
                   first
                     | exact ⟨⟨n + 1, by omega, by omega, by go_num, HCS⟩, rfl⟩
                     | exact ⟨⟨n + 1, by omega, by omega, by go_num, HCS.out.drew⟩, rfl⟩
                     | exact ⟨⟨n + 1, by omega, by omega, by go_num, HCS.out.drew.drew⟩, rfl⟩)
            case measure => simp [cipIntOf]; omega
          · by_cases h4 : n % 8 = 4
            · have HKW : Hid _ := kw_four (bs := bsOf k) (j := n) (by omega) h4
              generalize kw (bsOf k) (n - 1) = x1 at c1 l1 HKW
              generalize kw (bsOf k) (n - 8) = x8 at c8 l8 HKW
              have hs8 := subW_lt l1
              have hx2 : bits .xor .u32 (x8 : Int) ((subW x1 : Nat) : Int) = ((x8 ^^^ subW x1 : Nat) : Int) := u32_xor_nat _ _ l8 hs8
              have HCS : Hid (CW w b (kw (bsOf k)) (n + 1) (wr.setCell ⟨b, n, none⟩ (.int .u32 ((x8 ^^^ subW x1 : Nat) : Int)))) := HCW.out _ HKW.out
              generalize x8 ^^^ subW x1 = z at hx2 HCS
              have HX : Hid (∀ W, (∀ j, j < 256 → W.cell? ⟨b, 60 + j, none⟩ = some (.int .u32 (sbox j : Nat))) → Calls Tryz.prog 75 #[.pointer (some ⟨b, 0, none⟩), .int .u32 (x1 : Int)] W fun e w' => e = .returned (.int .u32 (subW x1 : Nat)) ∧ w' = W.drew) := fun W hW => HBX.out W hW _ l1
              clear HKW HCW HBX
              generalize subW x1 = s1 at hs8 hx2 HX
              have he : ((n : Int) % 8 == 0) = false := by rw [beq_eq_false_iff_ne]; omega
              have he4 : ((n : Int) % 8 == 4) = true := by rw [beq_iff_eq]; omega
              go_wp2_with fail
              go_region
              go_wp2_with fail
              refine (HX.out _ HC.out.drew.box).mono ?_
              rintro e w' ⟨rfl, hw⟩
              subst w'
              go_wp2_with fail
              go_roundw
              case rel =>
                first
                  | exact ⟨n + 1, by omega, by omega, by go_num, HCS⟩
                  | exact ⟨n + 1, by omega, by omega, by go_num, HCS.out.drew⟩
                  | exact ⟨n + 1, by omega, by omega, by go_num, HCS.out.drew.drew⟩
                  | (repeat apply Exists.intro
                     first
                       | exact ⟨⟨n + 1, by omega, by omega, by go_num, HCS⟩, rfl⟩
                       | exact ⟨⟨n + 1, by omega, by omega, by go_num, HCS.out.drew⟩, rfl⟩
                       | exact ⟨⟨n + 1, by omega, by omega, by go_num, HCS.out.drew.drew⟩, rfl⟩)
              case measure => simp [cipIntOf]; omega
            · have HKW : Hid _ := kw_else (bs := bsOf k) (j := n) (by omega) h0 h4
              generalize kw (bsOf k) (n - 1) = x1 at c1 l1 HKW
              generalize kw (bsOf k) (n - 8) = x8 at c8 l8 HKW
              have hx2 : bits .xor .u32 (x8 : Int) (x1 : Int) = ((x8 ^^^ x1 : Nat) : Int) := u32_xor_nat _ _ l8 l1
              have HCS : Hid (CW w b (kw (bsOf k)) (n + 1) (wr.setCell ⟨b, n, none⟩ (.int .u32 ((x8 ^^^ x1 : Nat) : Int)))) := HCW.out _ HKW.out
              generalize x8 ^^^ x1 = z at hx2 HCS
              clear HKW HCW HBX
              have he : ((n : Int) % 8 == 0) = false := by rw [beq_eq_false_iff_ne]; omega
              have he4 : ((n : Int) % 8 == 4) = false := by rw [beq_eq_false_iff_ne]; omega
              go_wp2_with fail
              go_region
              go_wp2_with fail
              go_roundw
              case rel =>
                first
                  | exact ⟨n + 1, by omega, by omega, by go_num, HCS⟩
                  | exact ⟨n + 1, by omega, by omega, by go_num, HCS.out.drew⟩
                  | exact ⟨n + 1, by omega, by omega, by go_num, HCS.out.drew.drew⟩
                  | (repeat apply Exists.intro
                     first
                       | exact ⟨⟨n + 1, by omega, by omega, by go_num, HCS⟩, rfl⟩
                       | exact ⟨⟨n + 1, by omega, by omega, by go_num, HCS.out.drew⟩, rfl⟩
                       | exact ⟨⟨n + 1, by omega, by omega, by go_num, HCS.out.drew.drew⟩, rfl⟩)
              case measure => simp [cipIntOf]; omega
        · obtain rfl : n = 60 := by omega
          go_wp2_with fail
          go_ret
          exact ⟨b, rfl, HC.out⟩
end Go.Proofs.YtnkahdidelhdaacGreatDoor
