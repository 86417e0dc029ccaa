/-
  Several texts of this seat as one: RngF, ShaTurn, ShaMath.
-/
import Derived.Test.YtbkjcngehhdchaaPk05
import Derived.Test.YtbkjcngehhdchaaPk06
import Derived.Test.YtbkjcngehhdchaaRows
import Derived.WalkKit
import Derived.WalkSpells
import Derived.Laws.BitsAllLaws

/-!   The coder of ranges: all choices. -/
namespace Go.Proofs.Ytbkjcngehhdchaa
open Go.RowKit
set_option linter.unusedVariables false
set_option linter.unusedSimpArgs false
/-- choices in memory -/
structure ChRow (w : World) (g n : Nat) (F : Nat → Int × Int) : Prop where
  lt : g < w.heap.size
  x : ∀ i, i < n → w.cell? ⟨g, 2 * i, none⟩ = some (.int .i64 (F i).1)
  b : ∀ i, i < n → w.cell? ⟨g, 2 * i + 1, none⟩ = some (.int .i64 (F i).2)
theorem ChRow.below {w w' : World} {g n B : Nat} {F : Nat → Int × Int} (h : ChRow w g n F) (hb : Below B w w') (hg : g < B) : ChRow w' g n F :=
  ⟨Nat.lt_of_lt_of_le h.lt hb.size, fun i hi => (hb.cell (p := ⟨g, 2 * i, none⟩) hg).trans (h.x i hi), fun i hi => (hb.cell (p := ⟨g, 2 * i + 1, none⟩) hg).trans (h.b i hi)⟩
def okCh (c : Int × Int) : Prop := (0 ≤ c.1 ∧ c.1 < 512) ∧ (c.2 = 0 ∨ c.2 = 1)
def chL (F : Nat → Int × Int) (n : Nat) : List (Nat × Nat) := (List.range n).map fun j => ((F j).1.toNat, (F j).2.toNat)
theorem chL_succ (F : Nat → Int × Int) (n : Nat) : chL F (n + 1) = chL F n ++ [((F n).1.toNat, (F n).2.toNat)] := by simp [chL, List.range_succ]
theorem run_append (s : RS) (a b : List (Nat × Nat)) : s.run (a ++ b) = (s.run a).run b := by
  induction a generalizing s with
  | nil => rfl
  | cons c a ih => exact ih _
theorem norm1_len (s : RS) (h : 1 ≤ s.many) : s.norm1.out.length ≤ s.out.length + 1 := by
  unfold RS.norm1; split
  · have h1 := (sh_out h).1
    have : s.shw.out = s.sh.out := rfl
    rw [this, h1]; simp
  · omega
theorem rput_len {s : RS} (h : s.Fine) (hw : 16777216 ≤ s.width) (x b : Nat) : (s.put x b).out.length ≤ s.out.length + 2 := by
  have h1 := h.pre hw x b
  have h2 := norm1_len _ h1.many
  have h3 := norm1_len _ h1.norm1.many
  have h4 := out_preL s x b
  unfold RS.put RS.norm
  omega
theorem run_len (F : Nat → Int × Int) (n : Nat) : (RS.start.run (chL F n)).out.length ≤ 1 + 2 * n := by
  induction n with
  | zero => exact Nat.le_refl 1
  | succ n ih =>
    rw [chL_succ, run_append]
    have hf := run_fine RS.start_fine (by decide) (chL F n)
    have := rput_len hf.1 hf.2 (F n).1.toNat (F n).2.toNat
    have e : (RS.start.run (chL F n)).run [((F n).1.toNat, (F n).2.toNat)] = (RS.start.run (chL F n)).put (F n).1.toNat (F n).2.toNat := rfl
    rw [e]; omega
theorem run_succ (F : Nat → Int × Int) (n : Nat) : RS.start.run (chL F (n + 1)) = (RS.start.run (chL F n)).put (F n).1.toNat (F n).2.toNat := by rw [chL_succ, run_append]; rfl
set_option maxRecDepth 100000 in
theorem isCtx_yes (x : Int) (w : World) (h1 : 0 ≤ x) (h2 : x < 512) : Calls Try.prog 80 #[.int .i64 x] w fun e w' => e = .returned (.bool true) ∧ w' = w := by
  go_enter Try.func80, Try.ntmps80
  go_wp2_with fail
  go_ret
  exact ⟨rfl, rfl⟩
set_option maxRecDepth 100000 in
theorem isCtx_no (x : Int) (w : World) (h : ¬ (0 ≤ x ∧ x < 512)) : Calls Try.prog 80 #[.int .i64 x] w fun e w' => e = .returned (.bool false) ∧ w' = w := by
  by_cases h1 : 0 ≤ x
  · have h2 : ¬ x < 512 := fun c => h ⟨h1, c⟩
    clear h
    go_enter Try.func80, Try.ntmps80
    go_wp2_with fail
    go_ret
    exact ⟨rfl, rfl⟩
  · clear h
    go_enter Try.func80, Try.ntmps80
    go_wp2_with fail
    go_ret
    exact ⟨rfl, rfl⟩
theorem fold_size (l : List Value) (o : Nat) (Z : Array Value) : ((l.zipIdx o).foldl (fun cs x => cs.setIfInBounds x.2 x.1) Z).size = Z.size := by
  induction l generalizing o Z with
  | nil => rfl
  | cons a l ih => rw [List.zipIdx_cons, List.foldl_cons, ih]; simp
theorem fold_get (l : List Value) (o : Nat) (Z : Array Value) (h : o + l.length ≤ Z.size) (k : Nat) : ((l.zipIdx o).foldl (fun cs x => cs.setIfInBounds x.2 x.1) Z)[k]? = if o ≤ k ∧ k < o + l.length then l[k - o]? else Z[k]? := by
  induction l generalizing o Z with
  | nil => rw [if_neg (by simp only [List.length_nil]; omega)]; rfl
  | cons a l ih =>
    simp only [List.length_cons] at h
    rw [List.zipIdx_cons, List.foldl_cons, ih (o + 1) _ (by simp; omega)]
    simp only [List.length_cons]
    by_cases e : k = o
    · subst e
      rw [if_neg (by omega), if_pos (by omega), Nat.sub_self, Array.getElem?_setIfInBounds_self_of_lt (by omega)]; rfl
    · by_cases c : o ≤ k ∧ k < o + (l.length + 1)
      · rw [if_pos (by omega), if_pos c]
        have : k - o = (k - (o + 1)) + 1 := by omega
        rw [this]; rfl
      · rw [if_neg (by omega), if_neg c, Array.getElem?_setIfInBounds_ne (by omega)]
def fillC (Z K : Array Value) : Array Value := Array.foldl (fun cs x => cs.setIfInBounds x.2 x.1) Z K.zipIdx 0 513
theorem fill_eq {Z K : Array Value} (hk : K.size = 513) : fillC Z K = (K.toList.zipIdx).foldl (fun cs x => cs.setIfInBounds x.2 x.1) Z := by
  unfold fillC
  have h : (513 : Nat) = K.zipIdx.size := by simp [hk]
  rw [h, ← Array.foldl_toList]
  simp
theorem fill_size {Z K : Array Value} (hk : K.size = 513) : (fillC Z K).size = Z.size := by rw [fill_eq hk]; exact fold_size _ _ _
theorem fill_get {Z K : Array Value} (hk : K.size = 513) (hz : Z.size = 515) (k : Nat) : (fillC Z K)[k]? = if k < 513 then K[k]? else Z[k]? := by
  rw [fill_eq hk, fold_get _ _ _ (by simp [hk, hz])]
  have : K.toList.length = 513 := by simp [hk]
  rw [this]
  by_cases c : k < 513
  · rw [if_pos (by omega), if_pos c]; simp
  · rw [if_neg (by omega), if_neg c]
theorem byC_cells (l : List Nat) (h : ∀ x ∈ l, x < 256) : byC l = Lib.byteCells (l.map UInt8.ofNat) := by
  induction l with
  | nil => rfl
  | cons a l ih =>
    have ha := h a (List.mem_cons_self ..)
    have := ih (fun x hx => h x (List.mem_cons_of_mem _ hx))
    simp only [byC, Lib.byteCells, List.map_cons] at this ⊢
    rw [this]
    congr 2
    have e : (UInt8.ofNat a).toNat = a := by simp; omega
    rw [e]
/-- the bytes that are told -/
def encB (s : RS) : ByteArray := ⟨(s.out.map UInt8.ofNat).toArray⟩ ++ ⟨(bigL (s.low % 4294967296) 4).toArray⟩
set_option maxRecDepth 100000 in
set_option maxHeartbeats 2000000 in
theorem encode_some (g c n : Nat) (F : Nat → Int × Int) (w : World) (hn : n ≤ 40000) (h0 : 0 < n) (hr : ChRow w g n F) (hok : ∀ i, i < n → okCh (F i)) :
    Calls Try.prog 56 #[.slice (some ⟨g, 0, none⟩) n c] w fun e w' => e = .returned (.tuple #[.string (encB (RS.start.run (chL F n))), .bool true]) ∧ Below w.heap.size w w' := by
  have HR : Hid (ChRow w g n F) := hr
  have HOK : Hid (∀ i, i < n → okCh (F i)) := hok
  have hnI : (n : Int) ≤ 40000 := by omega
  clear hr hok
  go_enter Try.func56, Try.ntmps56
  go_wp2_with fail
  go_loopw [14] (fun t wr => ∃ i : Nat, i ≤ n ∧ t = .int .i64 (i : Int) ∧ Hid (Below w.heap.size w wr)) (fun t _ => n - natOfI t)
  case atStart => exact ⟨0, by omega, rfl, Below.refl _ _⟩
  case round =>
    obtain ⟨i, hi, rfl, HB⟩ := hrel
    by_cases hlt : i < n
    · have hltI : (i : Int) < (n : Int) := by omega
      have hrw := HR.out.below HB.out HR.out.lt
      obtain ⟨⟨o1, o2⟩, o3⟩ := HOK.out i hlt
      obtain ⟨q, hq⟩ : ∃ q, q = 2 * i := ⟨_, rfl⟩
      have hiq : i * 2 = q := by omega
      have x0 := hrw.x i hlt
      have x1 := hrw.b i hlt
      rw [← hq] at x0 x1
      generalize (F i).1 = x at *
      generalize (F i).2 = b at *
      have HC : Hid (∀ w, Calls Try.prog 80 #[.int .i64 x] w fun e w' => e = .returned (.bool true) ∧ w' = w) := fun w => isCtx_yes x w o1 o2
      have HBB : Hid (Below w.heap.size w (wr.alloc (.cells #[.int .i64 x, .int .i64 b] 108))) := HB.out.alloc HB.out.size _
      clear hrw hq
      go_wp2_with fail
      refine (HC.out _).mono ?_
      rintro e w' ⟨rfl, hw'⟩
      subst w'
      rcases o3 with rfl | rfl
      · go_wp2_with fail
        go_roundw
        case rel => exact ⟨i + 1, by omega, by go_num, HBB⟩
        case measure => simp [natOfI]; omega
      · go_wp2_with fail
        go_roundw
        case rel => exact ⟨i + 1, by omega, by go_num, HBB⟩
        case measure => simp [natOfI]; omega
    · obtain rfl : i = n := by omega
      have HST : Hid (∀ w, Calls Try.prog 81 #[] w fun e w' => e = .returned (.agg coder0) ∧ Below w.heap.size w w') := fun w => started_any w
      have hkz := coder0_size
      obtain ⟨Z, hZ⟩ : ∃ Z : Array Value, Z = Array.replicate 513 (Value.int .i64 0) ++ #[.int .i64 0, .slice none 0 0] := ⟨_, rfl⟩
      have hz : ∀ w, (zeroValue 126).run Try.prog w = .ok (.agg Z) w := by rw [hZ]; exact (zero_of_info (n := 515) (by kernel_rfl)).1
      have hZs : Z.size = 515 := by rw [hZ]; simp
      have hZe : ¬ Z = #[] := by intro e; rw [e] at hZs; simp at hZs
      have HE0 : Hid (∀ v, ((fillC Z coder0).setIfInBounds 514 v).size = 515 ∧ ((fillC Z coder0).setIfInBounds 514 v)[0]? = some (.int .i64 4294967295) ∧ (∀ j, j < 512 → ((fillC Z coder0).setIfInBounds 514 v)[1 + j]? = some (.int .i64 1024)) ∧ ((fillC Z coder0).setIfInBounds 514 v)[513]? = some (.int .i64 0) ∧ ((fillC Z coder0).setIfInBounds 514 v)[514]? = some v) := fun v => by
        have f0 := fill_size (Z := Z) coder0_size
        refine ⟨by rw [Array.size_setIfInBounds, f0, hZs], ?_, fun j hj => ?_, ?_, ?_⟩
        · rw [Array.getElem?_setIfInBounds_ne (by omega), fill_get coder0_size hZs, if_pos (by omega)]; exact coder0_zero
        · rw [Array.getElem?_setIfInBounds_ne (by omega), fill_get coder0_size hZs, if_pos (by omega)]; exact coder0_at hj
        · rw [Array.getElem?_setIfInBounds_ne (by omega), fill_get coder0_size hZs, if_neg (by omega), hZ, Array.getElem?_append_right (by simp)]; simp
        · rw [Array.getElem?_setIfInBounds_self_of_lt (by rw [f0, hZs]; omega)]
      have hfs : ¬ (Array.foldl (fun cs x => cs.setIfInBounds x.snd x.fst) Z coder0.zipIdx 0 513).size < 515 := by
        have := fill_size (Z := Z) coder0_size
        unfold fillC at this
        rw [this, hZs]; omega
      unfold fillC at HE0
      clear hZ
      generalize coder0 = K at HST hkz hfs HE0
      go_wp2_with fail
      refine (HST.out _).mono ?_
      rintro e w3 ⟨rfl, hb3⟩
      have HB3 : Hid (Below w.heap.size w w3) := HB.out.trans (hb3.mono HB.out.size)
      clear hb3 HB
      go_wp2_with fail
      obtain ⟨hE1, hE2, hE3, hE4, hE5⟩ := HE0.out (.slice (some ⟨w3.heap.size, 0, none⟩) 1 1)
      generalize (Array.foldl (fun cs x => cs.setIfInBounds x.snd x.fst) Z K.zipIdx 0 513).setIfInBounds 514 (.slice (some ⟨w3.heap.size, 0, none⟩) 1 1) = C0 at *
      obtain ⟨W4, hW4⟩ : ∃ W4, W4 = (w3.alloc (.cells #[.int .u8 0] 5)).alloc (.cells C0 126) := ⟨_, rfl⟩
      obtain ⟨g6, hg6⟩ : ∃ g6, g6 = w3.heap.size + 1 := ⟨_, rfl⟩
      have HES : Hid (ES W4 w.heap.size g6 (RS.start.run (chL F 0)) ∧ Below w.heap.size w W4) := by
        refine ⟨⟨C0, .slice (some ⟨w3.heap.size, 0, none⟩) 1 1, ?_⟩, ?_⟩
        · have hrow : W4.heap[g6]? = some (.cells C0 126 (0, 0)) := by
            rw [hW4, hg6]
            have h := heap_alloc_new (w3.alloc (.cells #[.int .u8 0] 5)) (.cells C0 126)
            rwa [World.size_alloc] at h
          have hown : W4.ownsRow w.heap.size 5 1 (.slice (some ⟨w3.heap.size, 0, none⟩) 1 1) 1 (byC [0]) := by
            rw [hW4]; exact World.ownsRow.alloc (⟨rfl, Or.inr ⟨w3.heap.size, 1, #[.int .u8 0], rfl, HB3.out.size, heap_alloc_new _ _, Nat.le_refl _, by unfold maxLen; omega, rfl, rfl⟩⟩ : (w3.alloc (.cells #[.int .u8 0] 5)).ownsRow w.heap.size 5 1 (.slice (some ⟨w3.heap.size, 0, none⟩) 1 1) 1 (byC [0])) _
          have e0 : (RS.start.run (chL F 0)).out = [0] := by simp [chL, RS.run, RS.start, RS.out, dg]
          exact ⟨hrow, hE1, hE2, hE3, hE4, hE5, by rw [e0]; exact hown, by rw [hg6]; have := HB3.out.size; omega⟩
        · rw [hW4]; exact (HB3.out.alloc HB3.out.size _).alloc (by have := HB3.out.size; simp; omega) _
      rw [← hW4, ← hg6]
      clear hW4 hg6 hE1 hE2 hE3 hE4 hE5 HE0 hfs hkz hZs hZe hz HST
      go_loopw [39] (fun t wr => ∃ j : Nat, j ≤ i ∧ t = .int .i64 (j : Int) ∧ Hid (ES wr w.heap.size g6 (RS.start.run (chL F j)) ∧ Below w.heap.size w wr)) (fun t _ => i - natOfI t)
      case atStart => exact ⟨0, by omega, rfl, HES.out⟩
      case round =>
        obtain ⟨j, hj, rfl, HJ⟩ := hrel
        by_cases hlt : j < i
        · have hltI : (j : Int) < (i : Int) := by omega
          have hrw := HR.out.below HJ.out.2 HR.out.lt
          obtain ⟨⟨o1, o2⟩, o3⟩ := HOK.out j hlt
          obtain ⟨q, hq⟩ : ∃ q, q = 2 * j := ⟨_, rfl⟩
          have hiq : j * 2 = q := by omega
          have x0 := hrw.x j hlt
          have x1 := hrw.b j hlt
          rw [← hq] at x0 x1
          obtain ⟨x, hx⟩ : ∃ x : Nat, (F j).1 = (x : Int) := ⟨(F j).1.toNat, by omega⟩
          obtain ⟨b, hb⟩ : ∃ b : Nat, (F j).2 = (b : Int) := ⟨(F j).2.toNat, by omega⟩
          have hf := run_fine RS.start_fine (by decide) (chL F j)
          have hlen := run_len F j
          have HPUT : Hid (Calls Try.prog 82 #[.pointer (some ⟨g6, 0, none⟩), .agg #[.int .i64 (x : Int), .int .i64 (b : Int)]] (wr.alloc (.cells #[.int .i64 (x : Int), .int .i64 (b : Int)] 108)) fun e w' => (∃ v, e = .returned v) ∧ ES w' w.heap.size g6 (RS.start.run (chL F (j + 1))) ∧ Below w.heap.size (wr.alloc (.cells #[.int .i64 (x : Int), .int .i64 (b : Int)] 108)) w') := by
            have e1 : (F j).1.toNat = x := by omega
            have e2 : (F j).2.toNat = b := by omega
            rw [run_succ, e1, e2]
            obtain ⟨⟨C, v, hE⟩, hB⟩ := HJ.out
            exact put_any hf.1 hf.2 ⟨C, v, hE.below ((Below.refl _ wr).alloc (Nat.le_refl _) _)⟩ (by have := hB.size; simp; omega) (by omega) (by omega) (by omega)
          rw [hx] at x0
          rw [hb] at x1
          clear hrw hq hf hlen o1 o2 o3 hx hb
          go_wp2_with fail
          refine HPUT.out.mono ?_
          rintro e w5 ⟨⟨ve, rfl⟩, h5, hb5⟩
          have HN : Hid (ES w5 w.heap.size g6 (RS.start.run (chL F (j + 1))) ∧ Below w.heap.size w w5) := ⟨h5, (HJ.out.2.alloc HJ.out.2.size _).trans hb5⟩
          clear h5 hb5 HPUT
          go_wp2_with fail
          go_roundw
          case rel => exact ⟨j + 1, by omega, by go_num, HN⟩
          case measure => simp [natOfI]; omega
        · obtain rfl : j = i := by omega
          obtain ⟨⟨C, v, hE⟩, hB⟩ := HJ.out
          have hf := run_fine RS.start_fine (by decide) (chL F j)
          have hlen := run_len F j
          obtain ⟨st, hst⟩ : ∃ st, st = RS.start.run (chL F j) := ⟨_, rfl⟩
          rw [← hst] at hE hf hlen
          have HST2 : Hid (st = RS.start.run (chL F j)) := hst
          obtain ⟨lo, hlo⟩ : ∃ lo, lo = st.low % 4294967296 := ⟨_, rfl⟩
          rw [← hlo] at hE
          have hlo2 : lo < 4294967296 := by omega
          have HLO : Hid (lo = st.low % 4294967296) := hlo
          have HE : Hid (EA wr w.heap.size g6 st.width lo st.probs st.out C v) := hE
          have HBW : Hid (Below w.heap.size w wr) := hB
          obtain ⟨os, hos⟩ : ∃ os : List UInt8, os = st.out.map UInt8.ofNat := ⟨_, rfl⟩
          have hby : byC st.out = Lib.byteCells os := by rw [hos]; exact byC_cells _ hf.1.outs
          have hol : os.length = st.out.length := by rw [hos]; simp
          have HOS : Hid (os = st.out.map UInt8.ofNat) := hos
          have HCV : Hid (∀ w', Below wr.heap.size wr w' → (convert 36 9 v).run Try.prog w' = .ok (.string ⟨os.toArray⟩) w') := fun w' hb => by
            have h := (HE.out.below hb).own
            rw [hby, ← hol] at h
            exact conv_bytes h
          obtain ⟨S, hSS⟩ : ∃ S : World → Prop, S = fun w' => Below wr.heap.size wr w' := ⟨_, rfl⟩
          have hSd : S wr.drew := by rw [hSS]; exact (Below.refl _ wr).drew
          have HS : Hid (S = fun w' => Below wr.heap.size wr w') := hSS
          have HX1 : Hid (∀ w', S w' → w'.cell? ⟨g6, 514, none⟩ = some v ∧ w'.cell? ⟨g6, 513, none⟩ = some (.int .i64 (lo : Int)) ∧ (convert 36 9 v).run Try.prog w' = .ok (.string ⟨os.toArray⟩) w') := fun w' h => by
            rw [hSS] at h
            have h2 := HE.out.below h
            exact ⟨(cell_of_row w' g6 514 _ _ _ h2.row).trans h2.cs, (cell_of_row w' g6 513 _ _ _ h2.row).trans h2.cl, HCV.out w' h⟩
          have hln : (⟨os.toArray⟩ : ByteArray).size = os.length := by simp [ByteArray.size]
          have hln2 : (⟨(bigL lo 4).toArray⟩ : ByteArray).size = 4 := by simp [ByteArray.size, bigL_len]
          have hos4 : os.length ≤ 80001 := by omega
          have hcat : ¬ 9223372036854775807 < (⟨os.toArray⟩ : ByteArray).size + (⟨(bigL lo 4).toArray⟩ : ByteArray).size := by omega
          have HANS : Hid ((⟨os.toArray⟩ ++ ⟨(bigL lo 4).toArray⟩ : ByteArray) = encB (RS.start.run (chL F j))) := by show _ = _; rw [← HST2.out, HOS.out, HLO.out]; rfl
          generalize (⟨os.toArray⟩ : ByteArray) = BA at *
          generalize hBB : (⟨(bigL lo 4).toArray⟩ : ByteArray) = BB at *
          have HHI : Hid (∀ w, Calls Try.prog 57 #[.int .u64 (lo : Int), .int .i64 4] w fun e w' => e = .returned (.string BB) ∧ Below w.heap.size w w') := fun w => by rw [← hBB]; exact high_any lo 4 w (by omega) (by omega) (by omega)
          clear hE hB hf hlen hst hlo hos hby hol hSS hln hln2 hBB hos4
          go_wp2_with fail
          refine wp_region_held (S := S) (by kernel_rfl) ?_
          change wpAnyH _ _ _ _ _ _ _ _ (World.drew _)
          refine wpAnyH_take (i := 0) (v := .pointer (some ⟨g6, 0, none⟩)) rfl (by kernel_rfl) (by kernel_rfl) (by kernel_rfl) (fun _ _ _ h => h) (Or.inl ⟨by rfl, by intro w' hS'; go_simp <;> (first | omega | (rw [IntKind.wrap_i64]; omega) | (rw [IntKind.wrap_u64]; omega) | (rw [IntKind.wrap_u32]; omega) | (rw [Int.tmod_eq_emod_of_nonneg (by omega)]))⟩) hSd ?_
          (try simp only [List.getElem_toArray, List.getElem_cons_succ, List.getElem_cons_zero, Act.put, List.setIfInBounds_toArray, List.set_cons_zero, List.set_cons_succ])
          refine wpAnyH_take (i := 1) (v := .pointer (some ⟨g6, 0, none⟩)) rfl (by kernel_rfl) (by kernel_rfl) (by kernel_rfl) (fun _ _ _ h => h) (Or.inl ⟨by rfl, by intro w' hS'; go_simp <;> (first | omega | (rw [IntKind.wrap_i64]; omega) | (rw [IntKind.wrap_u64]; omega) | (rw [IntKind.wrap_u32]; omega) | (rw [Int.tmod_eq_emod_of_nonneg (by omega)]))⟩) hSd ?_
          (try simp only [List.getElem_toArray, List.getElem_cons_succ, List.getElem_cons_zero, Act.put, List.setIfInBounds_toArray, List.set_cons_zero, List.set_cons_succ])
          refine wpAnyH_take (i := 2) (v := .pointer (some ⟨g6, 514, none⟩)) rfl (by kernel_rfl) (by kernel_rfl) (by kernel_rfl) (fun _ _ _ h => h) (Or.inl ⟨by rfl, by intro w' hS'; go_simp <;> (first | omega | (rw [IntKind.wrap_i64]; omega) | (rw [IntKind.wrap_u64]; omega) | (rw [IntKind.wrap_u32]; omega) | (rw [Int.tmod_eq_emod_of_nonneg (by omega)]))⟩) hSd ?_
          (try simp only [List.getElem_toArray, List.getElem_cons_succ, List.getElem_cons_zero, Act.put, List.setIfInBounds_toArray, List.set_cons_zero, List.set_cons_succ])
          refine wpAnyH_take (i := 3) (v := v) rfl (by kernel_rfl) (by kernel_rfl) (by kernel_rfl) (fun _ _ _ h => h) (Or.inl ⟨by rfl, by intro w' hS'; have hxx := (HX1.out w' hS').1; go_simp <;> (first | omega | (rw [IntKind.wrap_i64]; omega) | (rw [IntKind.wrap_u64]; omega) | (rw [IntKind.wrap_u32]; omega) | (rw [Int.tmod_eq_emod_of_nonneg (by omega)]))⟩) hSd ?_
          (try simp only [List.getElem_toArray, List.getElem_cons_succ, List.getElem_cons_zero, Act.put, List.setIfInBounds_toArray, List.set_cons_zero, List.set_cons_succ])
          refine wpAnyH_take (i := 4) (v := .string BA) rfl (by kernel_rfl) (by kernel_rfl) (by kernel_rfl) (fun _ _ _ h => h) (Or.inl ⟨by rfl, by intro w' hS'; have hxx := (HX1.out w' hS').2.2; go_simp <;> (first | omega | (rw [IntKind.wrap_i64]; omega) | (rw [IntKind.wrap_u64]; omega) | (rw [IntKind.wrap_u32]; omega) | (rw [Int.tmod_eq_emod_of_nonneg (by omega)]))⟩) hSd ?_
          (try simp only [List.getElem_toArray, List.getElem_cons_succ, List.getElem_cons_zero, Act.put, List.setIfInBounds_toArray, List.set_cons_zero, List.set_cons_succ])
          refine wpAnyH_take (i := 5) (v := .pointer (some ⟨g6, 0, none⟩)) rfl (by kernel_rfl) (by kernel_rfl) (by kernel_rfl) (fun _ _ _ h => h) (Or.inl ⟨by rfl, by intro w' hS'; go_simp <;> (first | omega | (rw [IntKind.wrap_i64]; omega) | (rw [IntKind.wrap_u64]; omega) | (rw [IntKind.wrap_u32]; omega) | (rw [Int.tmod_eq_emod_of_nonneg (by omega)]))⟩) hSd ?_
          (try simp only [List.getElem_toArray, List.getElem_cons_succ, List.getElem_cons_zero, Act.put, List.setIfInBounds_toArray, List.set_cons_zero, List.set_cons_succ])
          refine wpAnyH_take (i := 6) (v := .pointer (some ⟨g6, 0, none⟩)) rfl (by kernel_rfl) (by kernel_rfl) (by kernel_rfl) (fun _ _ _ h => h) (Or.inl ⟨by rfl, by intro w' hS'; go_simp <;> (first | omega | (rw [IntKind.wrap_i64]; omega) | (rw [IntKind.wrap_u64]; omega) | (rw [IntKind.wrap_u32]; omega) | (rw [Int.tmod_eq_emod_of_nonneg (by omega)]))⟩) hSd ?_
          (try simp only [List.getElem_toArray, List.getElem_cons_succ, List.getElem_cons_zero, Act.put, List.setIfInBounds_toArray, List.set_cons_zero, List.set_cons_succ])
          refine wpAnyH_take (i := 7) (v := .pointer (some ⟨g6, 513, none⟩)) rfl (by kernel_rfl) (by kernel_rfl) (by kernel_rfl) (fun _ _ _ h => h) (Or.inl ⟨by rfl, by intro w' hS'; go_simp <;> (first | omega | (rw [IntKind.wrap_i64]; omega) | (rw [IntKind.wrap_u64]; omega) | (rw [IntKind.wrap_u32]; omega) | (rw [Int.tmod_eq_emod_of_nonneg (by omega)]))⟩) hSd ?_
          (try simp only [List.getElem_toArray, List.getElem_cons_succ, List.getElem_cons_zero, Act.put, List.setIfInBounds_toArray, List.set_cons_zero, List.set_cons_succ])
          refine wpAnyH_take (i := 8) (v := .int .i64 (lo : Int)) rfl (by kernel_rfl) (by kernel_rfl) (by kernel_rfl) (fun _ _ _ h => h) (Or.inl ⟨by rfl, by intro w' hS'; have hxx := (HX1.out w' hS').2.1; go_simp <;> (first | omega | (rw [IntKind.wrap_i64]; omega) | (rw [IntKind.wrap_u64]; omega) | (rw [IntKind.wrap_u32]; omega) | (rw [Int.tmod_eq_emod_of_nonneg (by omega)]))⟩) hSd ?_
          (try simp only [List.getElem_toArray, List.getElem_cons_succ, List.getElem_cons_zero, Act.put, List.setIfInBounds_toArray, List.set_cons_zero, List.set_cons_succ])
          refine wpAnyH_take (i := 9) (v := .int .u64 (lo : Int)) rfl (by kernel_rfl) (by kernel_rfl) (by kernel_rfl) (fun _ _ _ h => h) (Or.inl ⟨by rfl, by intro w' hS'; go_simp <;> (first | omega | (rw [IntKind.wrap_i64]; omega) | (rw [IntKind.wrap_u64]; omega) | (rw [IntKind.wrap_u32]; omega) | (rw [Int.tmod_eq_emod_of_nonneg (by omega)]))⟩) hSd ?_
          (try simp only [List.getElem_toArray, List.getElem_cons_succ, List.getElem_cons_zero, Act.put, List.setIfInBounds_toArray, List.set_cons_zero, List.set_cons_succ])
          refine held_stepS (i := 10) (by kernel_rfl) rfl (by rfl) ?_
          go_simp
          refine (HHI.out _).mono ?_
          rintro e w5 ⟨rfl, hb5⟩
          have hb6 : Below wr.heap.size wr w5 := ((Below.refl _ wr).drew).trans hb5
          have hS5 : S w5 := by rw [HS.out]; exact hb6
          refine ⟨hS5, ?_⟩
          (try simp only [List.getElem_toArray, List.getElem_cons_succ, List.getElem_cons_zero, Act.put, List.setIfInBounds_toArray, List.set_cons_zero, List.set_cons_succ])
          refine wpAnyH_take (i := 11) (v := .string (BA ++ BB)) rfl (by kernel_rfl) (by kernel_rfl) (by kernel_rfl) (fun _ _ _ h => h) (Or.inl ⟨by rfl, by intro w' hS'; go_simp <;> (first | omega | (rw [IntKind.wrap_i64]; omega) | (rw [IntKind.wrap_u64]; omega) | (rw [IntKind.wrap_u32]; omega) | (rw [Int.tmod_eq_emod_of_nonneg (by omega)]))⟩) hS5 ?_
          (try simp only [List.getElem_toArray, List.getElem_cons_succ, List.getElem_cons_zero, Act.put, List.setIfInBounds_toArray, List.set_cons_zero, List.set_cons_succ])
          refine wpAnyH_take (i := 12) (v := .string (BA ++ BB)) rfl (by kernel_rfl) (by kernel_rfl) (by kernel_rfl) (fun _ _ _ h => h) (Or.inl ⟨by rfl, by intro w' hS'; go_simp <;> (first | omega | (rw [IntKind.wrap_i64]; omega) | (rw [IntKind.wrap_u64]; omega) | (rw [IntKind.wrap_u32]; omega) | (rw [Int.tmod_eq_emod_of_nonneg (by omega)]))⟩) hS5 ?_
          (try simp only [List.getElem_toArray, List.getElem_cons_succ, List.getElem_cons_zero, Act.put, List.setIfInBounds_toArray, List.set_cons_zero, List.set_cons_succ])
          refine wpAnyH_take (i := 13) (v := .bool true) rfl (by kernel_rfl) (by kernel_rfl) (by kernel_rfl) (fun _ _ _ h => h) (Or.inl ⟨by rfl, by intro w' hS'; go_simp <;> (first | omega | (rw [IntKind.wrap_i64]; omega) | (rw [IntKind.wrap_u64]; omega) | (rw [IntKind.wrap_u32]; omega) | (rw [Int.tmod_eq_emod_of_nonneg (by omega)]))⟩) hS5 ?_
          (try simp only [List.getElem_toArray, List.getElem_cons_succ, List.getElem_cons_zero, Act.put, List.setIfInBounds_toArray, List.set_cons_zero, List.set_cons_succ])
          refine wpAnyH_done (by kernel_rfl) ?_ _
          go_wp2_with fail
          go_ret2
          exact ⟨by rw [← HANS.out]; rfl, HBW.out.trans (hb6.mono HBW.out.size)⟩
set_option maxRecDepth 100000 in
set_option maxHeartbeats 2000000 in
theorem encode_bad (g c n k : Nat) (F : Nat → Int × Int) (w : World) (hn : n ≤ 40000) (hk : k < n) (hr : ChRow w g n F) (hok : ∀ i, i < k → okCh (F i)) (hbad : ¬ okCh (F k)) :
    Calls Try.prog 56 #[.slice (some ⟨g, 0, none⟩) n c] w fun e w' => e = .returned (.tuple #[.string ⟨#[]⟩, .bool false]) ∧ Below w.heap.size w w' := by
  have HR : Hid (ChRow w g n F) := hr
  have HOK : Hid (∀ i, i < k → okCh (F i)) := hok
  have HBAD : Hid (¬ okCh (F k)) := hbad
  have hnI : (n : Int) ≤ 40000 := by omega
  clear hr hok hbad
  go_enter Try.func56, Try.ntmps56
  go_wp2_with fail
  go_loopw [14] (fun t wr => ∃ i : Nat, i ≤ k ∧ t = .int .i64 (i : Int) ∧ Hid (Below w.heap.size w wr)) (fun t _ => n - natOfI t)
  case atStart => exact ⟨0, by omega, rfl, Below.refl _ _⟩
  case round =>
    obtain ⟨i, hi, rfl, HB⟩ := hrel
    have hltI : (i : Int) < (n : Int) := by omega
    have hltn : i < n := by omega
    have hrw := HR.out.below HB.out HR.out.lt
    obtain ⟨q, hq⟩ : ∃ q, q = 2 * i := ⟨_, rfl⟩
    have hiq : i * 2 = q := by omega
    have x0 := hrw.x i hltn
    have x1 := hrw.b i hltn
    rw [← hq] at x0 x1
    have HBB : Hid (∀ x b : Int, Below w.heap.size w (wr.alloc (.cells #[.int .i64 x, .int .i64 b] 108))) := fun x b => HB.out.alloc HB.out.size _
    by_cases hlt : i < k
    · obtain ⟨⟨o1, o2⟩, o3⟩ := HOK.out i hlt
      generalize (F i).1 = x at *
      generalize (F i).2 = b at *
      have HC : Hid (∀ w, Calls Try.prog 80 #[.int .i64 x] w fun e w' => e = .returned (.bool true) ∧ w' = w) := fun w => isCtx_yes x w o1 o2
      clear hrw hq
      go_wp2_with fail
      refine (HC.out _).mono ?_
      rintro e w' ⟨rfl, hw'⟩
      subst w'
      rcases o3 with rfl | rfl
      · go_wp2_with fail
        go_roundw
        case rel => exact ⟨i + 1, by omega, by go_num, HBB.out _ _⟩
        case measure => simp [natOfI]; omega
      · go_wp2_with fail
        go_roundw
        case rel => exact ⟨i + 1, by omega, by go_num, HBB.out _ _⟩
        case measure => simp [natOfI]; omega
    · obtain rfl : i = k := by omega
      have hb := HBAD.out
      unfold okCh at hb
      generalize (F i).1 = x at *
      generalize (F i).2 = b at *
      by_cases o1 : 0 ≤ x ∧ x < 512
      · have HC : Hid (∀ w, Calls Try.prog 80 #[.int .i64 x] w fun e w' => e = .returned (.bool true) ∧ w' = w) := fun w => isCtx_yes x w o1.1 o1.2
        have b0 : (b != 0) = true := bne_iff_ne.2 (fun e => hb ⟨o1, Or.inl e⟩)
        have b1 : (b != 1) = true := bne_iff_ne.2 (fun e => hb ⟨o1, Or.inr e⟩)
        clear hrw hq hb o1
        go_wp2_with fail
        refine (HC.out _).mono ?_
        rintro e w' ⟨rfl, hw'⟩
        subst w'
        go_wp2_with fail
        go_ret2
        exact ⟨rfl, HBB.out _ _⟩
      · have HC : Hid (∀ w, Calls Try.prog 80 #[.int .i64 x] w fun e w' => e = .returned (.bool false) ∧ w' = w) := fun w => isCtx_no x w o1
        clear hrw hq hb o1
        go_wp2_with fail
        refine (HC.out _).mono ?_
        rintro e w' ⟨rfl, hw'⟩
        subst w'
        go_wp2_with fail
        go_ret2
        exact ⟨rfl, HBB.out _ _⟩
set_option maxRecDepth 100000 in
theorem encode_long (a : Option Addr) (c n : Nat) (w : World) (hn : ¬ n ≤ 40000) :
    Calls Try.prog 56 #[.slice a n c] w fun e w' => e = .returned (.tuple #[.string ⟨#[]⟩, .bool false]) ∧ Below w.heap.size w w' := by
  have hnI : (40000 : Int) < (n : Int) := by omega
  clear hn
  go_enter Try.func56, Try.ntmps56
  go_wp2_with fail
  go_ret2
  exact ⟨rfl, Below.refl _ _⟩
end Go.Proofs.Ytbkjcngehhdchaa

/-!   Words turned to the right: the code's and the specification's. -/
namespace Go.Proofs.Ytbkjcngehhdchaa
open Go.RowKit

def shaIntOf : Value → Int | .int _ q => q | _ => 0
/-- a word turned to the right -/
def rot (x : Int) (k : Nat) : Int := bits .or .u32 (x / 2 ^ k) (IntKind.u32.wrap (x * 2 ^ (32 - k)))
theorem or_comm32 (a b : Int) : bits .or .u32 a b = bits .or .u32 b a := by
  show IntKind.u32.wrap ((BitVec.ofInt 32 a ||| BitVec.ofInt 32 b).toNat : Int) = IntKind.u32.wrap ((BitVec.ofInt 32 b ||| BitVec.ofInt 32 a).toNat : Int)
  rw [BitVec.or_comm]

end Go.Proofs.Ytbkjcngehhdchaa

/-!   The words and the rounds of SHA-256, as plain mathematics over whole numbers. -/
namespace Go.Proofs.Ytbkjcngehhdchaa

def sg0 (x : Int) : Int := bits .xor .u32 (bits .xor .u32 (rot x 7) (rot x 18)) (x / 8)
def sg1 (x : Int) : Int := bits .xor .u32 (bits .xor .u32 (rot x 17) (rot x 19)) (x / 1024)
/-- the words of a block -/
def wd (bs : Nat → Nat) (j : Nat) : Int :=
  if h : j < 16 then ((((bs (4 * j) * 256 + bs (4 * j + 1)) * 256 + bs (4 * j + 2)) * 256 + bs (4 * j + 3) : Nat) : Int)
  else (sg1 (wd bs (j - 2)) + wd bs (j - 7) + sg0 (wd bs (j - 15)) + wd bs (j - 16)) % 4294967296
  termination_by j
  decreasing_by all_goals omega
theorem wd_low {bs : Nat → Nat} {j : Nat} (h : j < 16) : wd bs j = ((((bs (4 * j) * 256 + bs (4 * j + 1)) * 256 + bs (4 * j + 2)) * 256 + bs (4 * j + 3) : Nat) : Int) := by rw [wd, dif_pos h]
theorem wd_high {bs : Nat → Nat} {j : Nat} (h : 16 ≤ j) : wd bs j = (sg1 (wd bs (j - 2)) + wd bs (j - 7) + sg0 (wd bs (j - 15)) + wd bs (j - 16)) % 4294967296 := by rw [wd, dif_neg (by omega)]
theorem or_low {a b m : Nat} {i : Nat} (hm : m = 2 ^ i) (hb : b < m) (ha : m * a + b < 4294967296) : bits .or .u32 ((m * a : Nat) : Int) (b : Int) = ((m * a + b : Nat) : Int) := by
  subst hm
  rw [u32_or_nat _ _ (by omega) (by omega), ← Nat.two_pow_add_eq_or_of_lt hb]
theorem or_word (b0 b1 b2 b3 : Nat) (h0 : b0 < 256) (h1 : b1 < 256) (h2 : b2 < 256) (h3 : b3 < 256) :
    bits .or .u32 (bits .or .u32 (bits .or .u32 ((b0 : Int) * 16777216) ((b1 : Int) * 65536)) ((b2 : Int) * 256)) (b3 : Int) = ((((b0 * 256 + b1) * 256 + b2) * 256 + b3 : Nat) : Int) := by
  have e0 : (b0 : Int) * 16777216 = ((16777216 * b0 : Nat) : Int) := by omega
  have e1 : (b1 : Int) * 65536 = ((b1 * 65536 : Nat) : Int) := by omega
  have e2 : (b2 : Int) * 256 = ((b2 * 256 : Nat) : Int) := by omega
  rw [e0, e1, e2, or_low (i := 24) rfl (by omega) (by omega)]
  rw [show ((16777216 * b0 + b1 * 65536 : Nat) : Int) = ((65536 * (b0 * 256 + b1) : Nat) : Int) from by omega, or_low (i := 16) rfl (by omega) (by omega)]
  rw [show ((65536 * (b0 * 256 + b1) + b2 * 256 : Nat) : Int) = ((256 * ((b0 * 256 + b1) * 256 + b2) : Nat) : Int) from by omega, or_low (i := 8) rfl (by omega) (by omega)]
  congr 1; omega
theorem or_byte (x b : Nat) (hx : x < 16777216) (hb : b < 256) : bits .or .u32 ((x : Int) * 256) (b : Int) = ((x * 256 + b : Nat) : Int) := by
  rw [show (x : Int) * 256 = ((256 * x : Nat) : Int) from by omega, or_low (i := 8) rfl hb (by omega)]
  congr 1; omega
theorem words_set {bs : Nat → Nat} {cur : Array Value} {t n : Nat} (hs : cur.size = n) (ht : t < n) (h : ∀ j, j < t → cur[j]? = some (.int .u32 (wd bs j))) {x : Int} (hx : x = wd bs t) :
    ∀ j, j < t + 1 → (cur.setIfInBounds t (.int .u32 x))[j]? = some (.int .u32 (wd bs j)) := by
  subst hx
  intro j hj
  by_cases e : t = j
  · subst e; rw [Array.getElem?_setIfInBounds_self_of_lt (by omega)]
  · rw [Array.getElem?_setIfInBounds_ne e]; exact h j (by omega)
def bS1 (e : Int) : Int := bits .xor .u32 (bits .xor .u32 (rot e 6) (rot e 11)) (rot e 25)
def bS0 (a : Int) : Int := bits .xor .u32 (bits .xor .u32 (rot a 2) (rot a 13)) (rot a 22)
def chf (e f g : Int) : Int := bits .xor .u32 (bits .and .u32 e f) (bits .and .u32 (bits .xor .u32 4294967295 e) g)
def maj (a b c : Int) : Int := bits .xor .u32 (bits .xor .u32 (bits .and .u32 a b) (bits .and .u32 a c)) (bits .and .u32 b c)
def tone (v : Nat → Int) (k x : Int) : Int := (v 7 + bS1 (v 4) + chf (v 4) (v 5) (v 6) + k + x) % 4294967296
def ttwo (v : Nat → Int) : Int := (bS0 (v 0) + maj (v 0) (v 1) (v 2)) % 4294967296
/-- a round -/
def nextV (v : Nat → Int) (k x : Int) : Nat → Int
  | 0 => (tone v k x + ttwo v) % 4294967296
  | 1 => v 0
  | 2 => v 1
  | 3 => v 2
  | 4 => (v 3 + tone v k x) % 4294967296
  | 5 => v 4
  | 6 => v 5
  | _ => v 6
/-- so many rounds -/
def vAt (hv K W : Nat → Int) : Nat → (Nat → Int)
  | 0 => hv
  | t + 1 => nextV (vAt hv K W t) (K t) (W t)
/-- what a block makes of the state -/
def blockV (hv K : Nat → Int) (bs : Nat → Nat) (j : Nat) : Int := (hv j + vAt hv K (wd bs) 64 j) % 4294967296
theorem next_cells (v : Nat → Int) (kt x : Int) : ∀ j, j < 8 →
    (#[Value.int .u32 ((v 7 + bits .xor .u32 (bits .xor .u32 (rot (v 4) 6) (rot (v 4) 11)) (rot (v 4) 25) + bits .xor .u32 (bits .and .u32 (v 4) (v 5)) (bits .and .u32 (bits .xor .u32 IntKind.u32.max (v 4)) (v 6)) + kt + x +
        (bits .xor .u32 (bits .xor .u32 (rot (v 0) 2) (rot (v 0) 13)) (rot (v 0) 22) + bits .xor .u32 (bits .xor .u32 (bits .and .u32 (v 0) (v 1)) (bits .and .u32 (v 0) (v 2))) (bits .and .u32 (v 1) (v 2)))) % 4294967296),
      .int .u32 (v 0), .int .u32 (v 1), .int .u32 (v 2),
      .int .u32 ((v 3 + (v 7 + bits .xor .u32 (bits .xor .u32 (rot (v 4) 6) (rot (v 4) 11)) (rot (v 4) 25) + bits .xor .u32 (bits .and .u32 (v 4) (v 5)) (bits .and .u32 (bits .xor .u32 IntKind.u32.max (v 4)) (v 6)) + kt + x)) % 4294967296),
      .int .u32 (v 4), .int .u32 (v 5), .int .u32 (v 6)] : Array Value)[j]? = some (.int .u32 (nextV v kt x j)) := by
  have h1 : ∀ p q : Int, (p + q) % 4294967296 = (p % 4294967296 + q % 4294967296) % 4294967296 := by intro p q; omega
  have h2 : ∀ p q : Int, (p + q) % 4294967296 = (p + q % 4294967296) % 4294967296 := by intro p q; omega
  intro j hj
  match j, hj with
  | 0, _ => exact congrArg (fun z => some (Value.int .u32 z)) (h1 _ _)
  | 1, _ => rfl
  | 2, _ => rfl
  | 3, _ => rfl
  | 4, _ => exact congrArg (fun z => some (Value.int .u32 z)) (h2 _ _)
  | 5, _ => rfl
  | 6, _ => rfl
  | 7, _ => rfl
end Go.Proofs.Ytbkjcngehhdchaa
