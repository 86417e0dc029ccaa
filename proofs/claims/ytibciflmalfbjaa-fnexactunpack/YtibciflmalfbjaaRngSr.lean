/-
  The coder of ranges: all choices, the specification's.
-/
import Derived.Test.YtibciflmalfbjaaRngSq
import Derived.Laws.Tables
import Derived.Deep.MidRow
namespace Go.Proofs.Ytibciflmalfbjaa
open Go.RowKit
set_option linter.unusedVariables false
set_option linter.unusedSimpArgs false
def RS.shN (s : RS) : Nat → RS
  | 0 => s
  | k + 1 => (RS.shN s k).sh
theorem sh_many (s : RS) : 1 ≤ s.sh.many := by
  unfold RS.sh; split
  · exact Nat.le_refl 1
  · exact Nat.le_add_left 1 _
theorem sh_low (s : RS) : s.sh.low < 4294967296 := by
  unfold RS.sh; split
  · show s.low % 16777216 * 256 < _; omega
  · show s.low % 16777216 * 256 < _; omega
theorem sh_held {s : RS} (h : s.held < 256) : s.sh.held < 256 := by
  unfold RS.sh; split
  · show s.low / 16777216 % 256 < 256; omega
  · exact h
theorem sh_osB {s : RS} (h : ∀ x ∈ s.os, x < 256) : ∀ x ∈ s.sh.os, x < 256 := by
  unfold RS.sh; split
  · intro x hx
    have hx : x ∈ s.os ++ dg s.held s.many (s.low / 4294967296) := hx
    rcases List.mem_append.1 hx with hx | hx
    · exact h x hx
    · exact dg_bytes _ _ _ x hx
  · exact h
theorem shN_ok {s : RS} (h : s.Fine) (k : Nat) : (s.shN k).low < 8589934592 ∧ (s.shN k).held < 256 ∧ 1 ≤ (s.shN k).many ∧ (s.shN k).os.length + (s.shN k).many = s.os.length + s.many + k ∧ (∀ x ∈ (s.shN k).os, x < 256) := by
  induction k with
  | zero => exact ⟨h.low, h.held, h.many, rfl, h.bytes⟩
  | succ k ih =>
    obtain ⟨i1, i2, i3, i4, i5⟩ := ih
    have h1 := sh_low (s.shN k)
    have h2 := sh_len i3
    refine ⟨by show (s.shN k).sh.low < _; omega, sh_held i2, sh_many _, ?_, sh_osB i5⟩
    show (s.shN k).sh.os.length + (s.shN k).sh.many = _
    omega
theorem sh_os {s : RS} (h : s.low < 4278190080) : s.sh.os = s.out := by unfold RS.sh; rw [if_pos (Or.inl h)]
theorem ofNat_mod {a b : Nat} (h : a % 256 = b % 256) : UInt8.ofNat a = UInt8.ofNat b := by
  apply UInt8.toNat_inj.1
  simpa using h
theorem five_os {s : RS} (h : s.Fine) : (⟨((s.shN 5).os.map UInt8.ofNat).toArray⟩ : ByteArray) = encB s := by
  obtain ⟨o1, l1⟩ := sh_out h.many
  obtain ⟨o2, l2⟩ := sh_out (sh_many s)
  obtain ⟨o3, l3⟩ := sh_out (sh_many s.sh)
  obtain ⟨o4, l4⟩ := sh_out (sh_many s.sh.sh)
  obtain ⟨L, hL⟩ : ∃ L, L = s.low % 4294967296 := ⟨_, rfl⟩
  have hLb : L < 4294967296 := by omega
  rw [← hL] at o1 l1
  have e5 : (s.shN 5).os = s.sh.sh.sh.sh.out := sh_os (by show s.sh.sh.sh.sh.low < _; rw [l4, l3, l2, l1]; omega)
  rw [e5, o4, o3, o2, o1, l3, l2, l1]
  unfold encB
  rw [← hL]
  have hb : bigL L 4 = [UInt8.ofNat (L / 256 / 256 / 256), UInt8.ofNat (L / 256 / 256), UInt8.ofNat (L / 256), UInt8.ofNat L] := rfl
  rw [hb]
  apply ByteArray.ext
  apply Array.toList_inj.1
  simp only [ByteArray.data_append, Array.toList_append, List.map_append, List.map_cons, List.map_nil, List.append_assoc, List.cons_append, List.nil_append]
  congr 1
  rw [ofNat_mod (show L / 16777216 % 256 = L / 256 / 256 / 256 % 256 by omega), ofNat_mod (show L * 256 % 4294967296 % 4294967296 / 16777216 % 256 = L / 256 / 256 % 256 by omega), ofNat_mod (show L * 256 % 4294967296 % 4294967296 * 256 % 4294967296 % 4294967296 / 16777216 % 256 = L / 256 % 256 by omega), ofNat_mod (show L * 256 % 4294967296 % 4294967296 * 256 % 4294967296 % 4294967296 * 256 % 4294967296 % 4294967296 / 16777216 % 256 = L % 256 by omega)]
/-- the coder's box while it runs -/
structure EB (w W : World) (B g : Nat) (s : RS) (vo vp : Value) : Prop where
  own : W.ownsRow B 5 1 vo s.os.length (byC s.os)
  pr : W.ownsRow B 2 1 vp 512 ((List.range 512).map fun j => .int .i64 (s.probs j : Int))
  below : Below B w W
  box : W.heap[g]? = some (.cells #[.int .u64 (s.low : Int), .int .u32 (s.width : Int), .int .u8 (s.held : Int), .int .i64 (s.many : Int), vo, vp] 124 (0, 0))
  gB : B ≤ g
theorem grownBy_setR (w : World) (g : Nat) (c : Array Value) : w.grownBy (w.setRow g c) (some g) :=
  ⟨rfl, rfl, rfl, by simp, fun k hk hne => setRow_other _ _ _ _ (fun e => hne (by rw [e]))⟩
theorem EB.setRow {w W W2 : World} {B g : Nat} {s t : RS} {vo vp vo2 : Value} (h : EB w W B g s vo vp) (hb : Below B W W2) (hk : KeepI W W2)
    (ho : W2.ownsRow B 5 1 vo2 t.os.length (byC t.os)) (hp : W2.ownsRow B 2 1 vp 512 ((List.range 512).map fun j => .int .i64 (t.probs j : Int))) :
    EB w (W2.setRow g #[.int .u64 (t.low : Int), .int .u32 (t.width : Int), .int .u8 (t.held : Int), .int .i64 (t.many : Int), vo2, vp]) B g t vo2 vp := by
  have hx := hk _ _ _ _ h.box (by decide) (by decide)
  refine ⟨ho.kept (grownBy_setR _ g _) (Or.inr (fun e => row_apartE (by decide) ho hx e.symm)), hp.kept (grownBy_setR _ g _) (Or.inr (fun e => row_apartE (by decide) hp hx e.symm)), ?_, setRow_heap _ _ _ _ _ _ hx, h.gB⟩
  exact (h.below.trans hb).trans ⟨rfl, rfl, rfl, by simp, fun k hk => setRow_other _ _ _ _ (by have := h.gB; omega)⟩
theorem EB.drew {w W : World} {B g : Nat} {s : RS} {vo vp : Value} (h : EB w W B g s vo vp) : EB w W.drew B g s vo vp := ⟨h.own, h.pr, h.below.drew, h.box, h.gB⟩
theorem EB.toESV {w W : World} {B g : Nat} {s : RS} {vo vp : Value} (h : EB w W B g s vo vp) : ESV W B s (.agg #[.int .u64 (s.low : Int), .int .u32 (s.width : Int), .int .u8 (s.held : Int), .int .i64 (s.many : Int), vo, vp]) vo vp := ⟨rfl, h.own, h.pr⟩
theorem probs_start : (List.replicate 512 (Value.int .i64 1024)) = (List.range 512).map fun j => Value.int .i64 (RS.start.probs j : Int) := by
  apply List.ext_getElem
  · rw [List.length_replicate, List.length_map, List.length_range]
  · intro i h1 h2
    rw [List.getElem_replicate, List.getElem_map]; rfl
set_option maxRecDepth 100000 in
set_option maxHeartbeats 4000000 in
theorem sencode_any (a : Option Addr) (c n : Nat) (F : Nat → Int × Int) (w : World) (hn : n ≤ 40000) (hr : 0 < n → ∃ g, a = some ⟨g, 0, none⟩ ∧ ChRow w g n F) (hok : ∀ i, i < n → okCh (F i)) :
    Calls Try.prog 49 #[.slice a n c] w fun e w' => e = .returned (.string (encB (RS.start.run (chL F n)))) ∧ Below w.heap.size w w' := by
  have hnI : (n : Int) ≤ 40000 := by omega
  have HR : Hid (0 < n → ∃ g, a = some ⟨g, 0, none⟩ ∧ ChRow w g n F) := hr
  have HOK : Hid (∀ i, i < n → okCh (F i)) := hok
  have HPR : Hid (∀ w, Calls Try.prog 45 #[] w fun e w' => (∃ v, e = .returned v ∧ w'.ownsRow w.heap.size 2 1 v 512 (List.replicate 512 (.int .i64 1024))) ∧ Below w.heap.size w w') := fun w => probs_any w
  have HI6 : Hid ((Try.prog.info? 124).map (·.size) = some 6) := by show _ = _; kernel_rfl
  clear hr hok
  go_enter Try.func49, Try.ntmps49
  go_wp2_with fail
  refine (HPR.out _).mono ?_
  rintro e w1 ⟨⟨vp, rfl, hown⟩, hb1⟩
  obtain ⟨pa, pl, pc, rfl⟩ := own_slice hown
  have HB1 : Hid (Below w.heap.size w w1 ∧ w1.ownsRow w.heap.size 2 1 (.slice pa pl pc) 512 (List.replicate 512 (.int .i64 1024))) := ⟨hb1, hown⟩
  clear hb1 hown HPR
  obtain ⟨gb, hgb⟩ : ∃ gb, gb = w1.heap.size := ⟨_, rfl⟩
  obtain ⟨W0, hW0⟩ : ∃ W0, W0 = w1.alloc (.cells #[.int .u64 0, .int .u32 4294967295, .int .u8 0, .int .i64 1, .slice none 0 0, .slice pa pl pc] 124) := ⟨_, rfl⟩
  have HE0 : Hid (EB w W0 w.heap.size gb (RS.start.run (chL F 0)) (.slice none 0 0) (.slice pa pl pc)) := by
      rw [hW0, hgb]
      exact ⟨World.ownsRow_nil _ _ _ _, by rw [show RS.start.run (chL F 0) = RS.start from rfl, ← probs_start]; exact HB1.out.2.alloc _, HB1.out.1.alloc HB1.out.1.size _, heap_alloc_new w1 _, HB1.out.1.size⟩
  go_wp2_with fail
  rw [← hW0, ← hgb]
  clear hW0 hgb HB1
  go_loopw [4] (fun t wr => ∃ (i : Nat) (vo : Value), i ≤ n ∧ t = .int .i64 (i : Int) ∧ Hid (EB w wr w.heap.size gb (RS.start.run (chL F i)) vo (.slice pa pl pc))) (fun t _ => n - natOfI t)
  case atStart => exact ⟨0, _, by omega, rfl, HE0⟩
  case round =>
    clear HE0
    obtain ⟨i, vo, hi, rfl, HE⟩ := hrel
    obtain ⟨va, vl, vc, rfl⟩ := own_slice HE.out.own
    by_cases hlt : i < n
    · have hltI : (i : Int) < (n : Int) := by omega
      obtain ⟨g, rfl, hRR⟩ := HR.out (by omega)
      have HRR : Hid (ChRow w g n F) := hRR
      have hrw := hRR.below HE.out.below hRR.lt
      clear hRR
      obtain ⟨q, hq⟩ : ∃ q, q = 2 * i := ⟨_, rfl⟩
      have hiq : i * 2 = q := by omega
      have x0 := hrw.x i hlt
      have x1 := hrw.b i hlt
      rw [← hq] at x0 x1
      obtain ⟨⟨o1, o2⟩, o3⟩ := HOK.out i hlt
      obtain ⟨x, hx⟩ : ∃ x : Nat, (F i).1 = (x : Int) := ⟨(F i).1.toNat, by omega⟩
      obtain ⟨b, hb⟩ : ∃ b : Nat, (F i).2 = (b : Int) := ⟨(F i).2.toNat, by omega⟩
      rw [hx] at x0 o2
      rw [hb] at x1 o3
      have HRS : Hid (RS.start.run (chL F (i + 1)) = (RS.start.run (chL F i)).put x b) := by rw [run_succ, hx, hb]; rfl
      have hfine := run_fine RS.start_fine (by decide) (chL F i)
      have hlen := run_len F i
      have hol : (RS.start.run (chL F i)).os.length + (RS.start.run (chL F i)).many ≤ 800000 := by
        have e : (RS.start.run (chL F i)).out.length = (RS.start.run (chL F i)).os.length + (RS.start.run (chL F i)).many := by
          unfold RS.out; rw [List.length_append, dg_lenM _ _ _ hfine.1.many]
        omega
      have hxn : x < 512 := by omega
      have hbn : b = 0 ∨ b = 1 := by omega
      generalize RS.start.run (chL F i) = s at HE HRS hfine hol
      have HPUT : Hid (∀ w', ESV w' w.heap.size s (.agg #[.int .u64 (s.low : Int), .int .u32 (s.width : Int), .int .u8 (s.held : Int), .int .i64 (s.many : Int), .slice va vl vc, .slice pa pl pc]) (.slice va vl vc) (.slice pa pl pc) → w.heap.size ≤ w'.heap.size → Calls Try.prog 72 #[.agg #[.int .u64 (s.low : Int), .int .u32 (s.width : Int), .int .u8 (s.held : Int), .int .i64 (s.many : Int), .slice va vl vc, .slice pa pl pc], .agg #[.int .i64 (x : Int), .int .i64 (b : Int)]] w' fun e w'' => (∃ V' vo', e = .returned V' ∧ ESV w'' w.heap.size (s.put x b) V' vo' (.slice pa pl pc)) ∧ KeepI w' w'' ∧ Below w.heap.size w' w'') := fun w' h1 h2 => sputE_any h1 h2 hfine.1 hfine.2 hol hxn hbn
      obtain ⟨S, hSS⟩ : ∃ S : World → Prop, S = fun w' => Below w.heap.size w w' := ⟨_, rfl⟩
      have HS : Hid _ := hSS
      have hSd : S wr.drew := by rw [hSS]; exact HE.out.below.drew
      have HRG : Hid (∀ w', S w' → w'.rangeAt g q [.int .i64 (x : Int), .int .i64 (b : Int)]) := fun w' hw' j v hv => by
        rw [hSS] at hw'
        have hg2 := HRR.out.lt
        match j, hv with
        | 0, hv => simp at hv; subst hv; exact (hw'.cell (p := ⟨g, q, none⟩) hg2).trans ((HE.out.below.cell (p := ⟨g, q, none⟩) hg2).symm.trans x0)
        | 1, hv => simp at hv; subst hv; exact (hw'.cell (p := ⟨g, q + 1, none⟩) hg2).trans ((HE.out.below.cell (p := ⟨g, q + 1, none⟩) hg2).symm.trans x1)
      have HXN : Hid (x < 512) := hxn
      clear hSS hrw hx hb hq x0 x1 o1 o2 o3 hfine hlen hol hxn hbn
      go_wp2_with fail
      refine wp_region_held (S := S) (by kernel_rfl) ?_
      change wpAnyH _ _ _ _ _ _ _ _ (World.drew _)
      refine wpAnyH_take (i := 1) (v := .slice (some ⟨g, 0, none⟩) n c) rfl (by kernel_rfl) (by kernel_rfl) (by kernel_rfl) (fun _ _ _ h => h) (Or.inl ⟨by rfl, by intro w' hS'; go_simp <;> (first | omega | (rw [IntKind.wrap_i64]; omega) | (rw [IntKind.wrap_u64]; omega) | (rw [IntKind.wrap_u32]; omega) | (rw [Int.tmod_eq_emod_of_nonneg (by omega)]))⟩) hSd ?_
      (try simp only [List.getElem_toArray, List.getElem_cons_succ, List.getElem_cons_zero, Act.put, List.setIfInBounds_toArray, List.set_cons_zero, List.set_cons_succ])
      refine wpAnyH_take (i := 2) (v := .int .i64 (i : Int)) rfl (by kernel_rfl) (by kernel_rfl) (by kernel_rfl) (fun _ _ _ h => h) (Or.inl ⟨by rfl, by intro w' hS'; go_simp <;> (first | omega | (rw [IntKind.wrap_i64]; omega) | (rw [IntKind.wrap_u64]; omega) | (rw [IntKind.wrap_u32]; omega) | (rw [Int.tmod_eq_emod_of_nonneg (by omega)]))⟩) hSd ?_
      (try simp only [List.getElem_toArray, List.getElem_cons_succ, List.getElem_cons_zero, Act.put, List.setIfInBounds_toArray, List.set_cons_zero, List.set_cons_succ])
      refine wpAnyH_take (i := 3) (v := .pointer (some ⟨g, q, none⟩)) rfl (by kernel_rfl) (by kernel_rfl) (by kernel_rfl) (fun _ _ _ h => h) (Or.inl ⟨by rfl, by intro w' hS'; go_simp <;> (first | omega | (rw [IntKind.wrap_i64]; omega) | (rw [IntKind.wrap_u64]; omega) | (rw [IntKind.wrap_u32]; omega) | (rw [Int.tmod_eq_emod_of_nonneg (by omega)]))⟩) hSd ?_
      (try simp only [List.getElem_toArray, List.getElem_cons_succ, List.getElem_cons_zero, Act.put, List.setIfInBounds_toArray, List.set_cons_zero, List.set_cons_succ])
      refine wpAnyH_take (i := 4) (v := .agg #[.int .i64 (x : Int), .int .i64 (b : Int)]) rfl (by kernel_rfl) (by kernel_rfl) (by kernel_rfl) (fun _ _ _ h => h) (yieldsIf_load_mid (by rfl) 106 (.tmp 17) rfl g q rfl [.int .i64 (x : Int), .int .i64 (b : Int)] _ HRG.out Try.underlying106 rfl (by kernel_rfl)) hSd ?_
      (try simp only [List.getElem_toArray, List.getElem_cons_succ, List.getElem_cons_zero, Act.put, List.setIfInBounds_toArray, List.set_cons_zero, List.set_cons_succ])
      refine held_stepS (i := 0) (by kernel_rfl) rfl (by rfl) ?_
      refine wp_load_row 124 (.tmp 3) rfl gb rfl 124 #[.int .u64 (s.low : Int), .int .u32 (s.width : Int), .int .u8 (s.held : Int), .int .i64 (s.many : Int), .slice va vl vc, .slice pa pl pc] (0, 0) _ HE.out.drew.box Try.underlying124 rfl HI6.out ?_
      refine ⟨hSd, ?_⟩
      (try simp only [List.getElem_toArray, List.getElem_cons_succ, List.getElem_cons_zero, Act.put, List.setIfInBounds_toArray, List.set_cons_zero, List.set_cons_succ])
      refine held_stepS (i := 5) (by kernel_rfl) rfl (by rfl) ?_
      go_simp
      refine (HPUT.out wr.drew HE.out.drew.toESV HE.out.drew.below.size).mono ?_
      rintro e w5 ⟨⟨V', vo', rfl, hE5⟩, hK5, hb5⟩
      obtain ⟨rfl, ho5, hp5⟩ := hE5
      have HB5 : Hid (Below w.heap.size w w5) := HE.out.drew.below.trans hb5
      have hbox5 := hK5 _ _ _ _ HE.out.drew.box (by decide) (by decide)
      have HN5 : Hid _ := HE.out.drew.setRow hb5 hK5 ho5 hp5
      have hS5 : S w5 := by rw [HS.out]; exact HB5.out
      refine ⟨hS5, ?_⟩
      (try simp only [List.getElem_toArray, List.getElem_cons_succ, List.getElem_cons_zero, Act.put, List.setIfInBounds_toArray, List.set_cons_zero, List.set_cons_succ])
      refine held_stepS (i := 6) (by kernel_rfl) rfl (by rfl) ?_
      refine wp_store_row 124 (.tmp 3) (.tmp 19) rfl gb #[.int .u64 ((s.put x b).low : Int), .int .u32 ((s.put x b).width : Int), .int .u8 ((s.put x b).held : Int), .int .i64 ((s.put x b).many : Int), vo', .slice pa pl pc] rfl rfl 124 _ hbox5 HI6.out rfl ?_ ?_
      · obtain ⟨ta, tl, tc, rfl⟩ := own_slice ho5
        simp [Value.oneCell']
      refine ⟨by rw [HS.out]; exact HN5.out.below, ?_⟩
      (try simp only [List.getElem_toArray, List.getElem_cons_succ, List.getElem_cons_zero, Act.put, List.setIfInBounds_toArray, List.set_cons_zero, List.set_cons_succ])
      refine wpAnyH_done (by kernel_rfl) ?_ _
      clear hS5 hbox5 hK5 hb5 ho5 hp5 HB5 hSd HRG HS HPUT HE
      go_wp2_with fail
      go_roundw
      case rel => exact ⟨i + 1, _, by omega, by go_num, by rw [HRS.out]; exact HN5⟩
      case measure => simp [natOfI]; omega
    · obtain rfl : i = n := by omega
      have hfine := run_fine RS.start_fine (by decide) (chL F i)
      have hlen := run_len F i
      have hol : (RS.start.run (chL F i)).os.length + (RS.start.run (chL F i)).many ≤ 800000 := by
        have e : (RS.start.run (chL F i)).out.length = (RS.start.run (chL F i)).os.length + (RS.start.run (chL F i)).many := by
          unfold RS.out; rw [List.length_append, dg_lenM _ _ _ hfine.1.many]
        omega
      have HFIN : Hid ((⟨((RS.start.run (chL F i)).shN 5 |>.os.map UInt8.ofNat).toArray⟩ : ByteArray) = encB (RS.start.run (chL F i))) := five_os hfine.1
      have HF : Hid ((RS.start.run (chL F i)).Fine) := hfine.1
      obtain ⟨s, hs⟩ : ∃ s, s = RS.start.run (chL F i) := ⟨_, rfl⟩
      have HFIN2 : Hid ((⟨(s.shN 5 |>.os.map UInt8.ofNat).toArray⟩ : ByteArray) = encB (RS.start.run (chL F i))) := by rw [hs]; exact HFIN
      rw [← hs] at HE HF hol
      have HOL : Hid (s.os.length + s.many ≤ 800000) := hol
      clear hfine hlen hol HFIN hs
      go_wp2_with fail
      go_loopw [5] (fun t wr => ∃ (j : Nat) (vo : Value), j ≤ 5 ∧ t = .int .i64 (j : Int) ∧ Hid (EB w wr w.heap.size gb (s.shN j) vo (.slice pa pl pc))) (fun t _ => 5 - natOfI t)
      case atStart => exact ⟨0, _, by omega, rfl, HE⟩
      case round =>
        clear HE
        obtain ⟨j, vo, hj, rfl, HE⟩ := hrel
        obtain ⟨ua, ul, uc, rfl⟩ := own_slice HE.out.own
        have hok := shN_ok HF.out j
        by_cases hj5 : j < 5
        · have hjI : (j : Int) < 5 := by omega
          have hol2 : (s.shN j).os.length + (s.shN j).many ≤ 900000 := by have := HOL.out; omega
          have HNX : Hid (s.shN (j + 1) = (s.shN j).sh) := rfl
          generalize s.shN j = t at HE HNX hok hol2
          have HSH : Hid (∀ w', ESV w' w.heap.size t (.agg #[.int .u64 (t.low : Int), .int .u32 (t.width : Int), .int .u8 (t.held : Int), .int .i64 (t.many : Int), .slice ua ul uc, .slice pa pl pc]) (.slice ua ul uc) (.slice pa pl pc) → w.heap.size ≤ w'.heap.size → Calls Try.prog 73 #[.agg #[.int .u64 (t.low : Int), .int .u32 (t.width : Int), .int .u8 (t.held : Int), .int .i64 (t.many : Int), .slice ua ul uc, .slice pa pl pc]] w' fun e w'' => (∃ V' vo', e = .returned V' ∧ ESV w'' w.heap.size t.sh V' vo' (.slice pa pl pc)) ∧ Keep w' w'' ∧ Below w.heap.size w' w'') := fun w' h1 h2 => shift_any h1 h2 ⟨hok.1, hok.2.1, hok.2.2.1⟩ hol2
          clear hok hol2
          go_wp2_with (refine wpList_load_row rfl 124 (.tmp 3) rfl gb rfl 124 #[.int .u64 (t.low : Int), .int .u32 (t.width : Int), .int .u8 (t.held : Int), .int .i64 (t.many : Int), .slice ua ul uc, .slice pa pl pc] (0, 0) _ HE.out.box Try.underlying124 rfl HI6.out ?_)
          refine (HSH.out _ HE.out.toESV HE.out.below.size).mono ?_
          rintro e w5 ⟨⟨V', vo', rfl, hE5⟩, hK5, hb5⟩
          obtain ⟨rfl, ho5, hp5⟩ := hE5
          have hbox5 := hK5 _ _ _ _ HE.out.box (by decide)
          have HN5 : Hid _ := HE.out.setRow hb5 (.of hK5) ho5 hp5
          obtain ⟨ta, tl, tc, rfl⟩ := own_slice ho5
          have HX5 : Hid _ := hbox5
          clear hbox5 hK5 hb5 ho5 hp5 HE HSH
          have HONE : Hid ((#[.int .u64 (t.sh.low : Int), .int .u32 (t.sh.width : Int), .int .u8 (t.sh.held : Int), .int .i64 (t.sh.many : Int), .slice ta tl tc, .slice pa pl pc] : Array Value).all (·.oneCell') = true) := by
            show _ = true
            simp [Value.oneCell']
          go_wp2_with (refine wpList_store_row rfl 124 (.tmp 3) (.tmp 25) rfl gb #[.int .u64 (t.sh.low : Int), .int .u32 (t.sh.width : Int), .int .u8 (t.sh.held : Int), .int .i64 (t.sh.many : Int), .slice ta tl tc, .slice pa pl pc] rfl rfl 124 _ HX5.out HI6.out rfl HONE.out ?_)
          go_roundw
          case rel => exact ⟨j + 1, _, by omega, by go_num, by rw [HNX.out]; exact HN5⟩
          case measure => simp [natOfI]; omega
        · obtain rfl : j = 5 := by omega
          have hbx := HE.out.box
          have HBY : Hid (∀ x ∈ (s.shN 5).os, x < 256) := hok.2.2.2.2
          have hcv : (convert 25 9 (.slice ua ul uc)).run Try.prog wr = .ok (.string ⟨((s.shN 5).os.map UInt8.ofNat).toArray⟩) wr := by
            have h := HE.out.own
            rw [byC_cells _ HBY.out] at h
            exact conv_bytes (l := (s.shN 5).os.map UInt8.ofNat) (by rw [List.length_map]; exact h)
          have b4 : wr.cell? ⟨gb, 4, none⟩ = some (.slice ua ul uc) := cell_of_row _ _ _ _ _ _ HE.out.box
          have HBF : Hid (Below w.heap.size w wr) := HE.out.below
          clear HE hok hbx HBY
          generalize s.shN 5 = t at hcv HFIN2
          go_wp2_with fail
          go_ret
          exact ⟨by rw [← HFIN2.out]; rfl, HBF.out⟩
end Go.Proofs.Ytibciflmalfbjaa
