/-
  Several texts of this seat as one: RngSr, RngZ, PckC.
-/
import Derived.Test.YtbkjcngehhdchaaPk18
import Derived.Laws.Tables
import Derived.Deep.MidRow
import Derived.Test.YtbkjcngehhdchaaPk07
import Derived.Test.YtbkjcngehhdchaaPk16
import Derived.Test.YtbkjcngehhdchaaPk17
import Derived.Test.YtbkjcngehhdchaaPk02

/-!   The coder of ranges: all choices, the specification's. -/
namespace Go.Proofs.Ytbkjcngehhdchaa
open Go.RowKit
set_option linter.unusedVariables false
set_option linter.unusedSimpArgs false
def RS.shN (s : RS) : Nat → RS
  | 0 => s
  | k + 1 => (RS.shN s k).sh
theorem sh_many (s : RS) : 1 ≤ s.sh.many := by
  unfold RS.sh; split
  · exact Nat.le_refl 1
  · exact Nat.le_add_left 1 _
theorem sh_low (s : RS) : s.sh.low < 4294967296 := by
  unfold RS.sh; split
  · show s.low % 16777216 * 256 < _; omega
  · show s.low % 16777216 * 256 < _; omega
theorem sh_held {s : RS} (h : s.held < 256) : s.sh.held < 256 := by
  unfold RS.sh; split
  · show s.low / 16777216 % 256 < 256; omega
  · exact h
theorem sh_osB {s : RS} (h : ∀ x ∈ s.os, x < 256) : ∀ x ∈ s.sh.os, x < 256 := by
  unfold RS.sh; split
  · intro x hx
    have hx : x ∈ s.os ++ dg s.held s.many (s.low / 4294967296) := hx
    rcases List.mem_append.1 hx with hx | hx
    · exact h x hx
    · exact dg_bytes _ _ _ x hx
  · exact h
theorem shN_ok {s : RS} (h : s.Fine) (k : Nat) : (s.shN k).low < 8589934592 ∧ (s.shN k).held < 256 ∧ 1 ≤ (s.shN k).many ∧ (s.shN k).os.length + (s.shN k).many = s.os.length + s.many + k ∧ (∀ x ∈ (s.shN k).os, x < 256) := by
  induction k with
  | zero => exact ⟨h.low, h.held, h.many, rfl, h.bytes⟩
  | succ k ih =>
    obtain ⟨i1, i2, i3, i4, i5⟩ := ih
    have h1 := sh_low (s.shN k)
    have h2 := sh_len i3
    refine ⟨by show (s.shN k).sh.low < _; omega, sh_held i2, sh_many _, ?_, sh_osB i5⟩
    show (s.shN k).sh.os.length + (s.shN k).sh.many = _
    omega
theorem sh_os {s : RS} (h : s.low < 4278190080) : s.sh.os = s.out := by unfold RS.sh; rw [if_pos (Or.inl h)]
theorem ofNat_mod {a b : Nat} (h : a % 256 = b % 256) : UInt8.ofNat a = UInt8.ofNat b := by
  apply UInt8.toNat_inj.1
  simpa using h
theorem five_os {s : RS} (h : s.Fine) : (⟨((s.shN 5).os.map UInt8.ofNat).toArray⟩ : ByteArray) = encB s := by
  obtain ⟨o1, l1⟩ := sh_out h.many
  obtain ⟨o2, l2⟩ := sh_out (sh_many s)
  obtain ⟨o3, l3⟩ := sh_out (sh_many s.sh)
  obtain ⟨o4, l4⟩ := sh_out (sh_many s.sh.sh)
  obtain ⟨L, hL⟩ : ∃ L, L = s.low % 4294967296 := ⟨_, rfl⟩
  have hLb : L < 4294967296 := by omega
  rw [← hL] at o1 l1
  have e5 : (s.shN 5).os = s.sh.sh.sh.sh.out := sh_os (by show s.sh.sh.sh.sh.low < _; rw [l4, l3, l2, l1]; omega)
  rw [e5, o4, o3, o2, o1, l3, l2, l1]
  unfold encB
  rw [← hL]
  have hb : bigL L 4 = [UInt8.ofNat (L / 256 / 256 / 256), UInt8.ofNat (L / 256 / 256), UInt8.ofNat (L / 256), UInt8.ofNat L] := rfl
  rw [hb]
  apply ByteArray.ext
  apply Array.toList_inj.1
  simp only [ByteArray.data_append, Array.toList_append, List.map_append, List.map_cons, List.map_nil, List.append_assoc, List.cons_append, List.nil_append]
  congr 1
  rw [ofNat_mod (show L / 16777216 % 256 = L / 256 / 256 / 256 % 256 by omega), ofNat_mod (show L * 256 % 4294967296 % 4294967296 / 16777216 % 256 = L / 256 / 256 % 256 by omega), ofNat_mod (show L * 256 % 4294967296 % 4294967296 * 256 % 4294967296 % 4294967296 / 16777216 % 256 = L / 256 % 256 by omega), ofNat_mod (show L * 256 % 4294967296 % 4294967296 * 256 % 4294967296 % 4294967296 * 256 % 4294967296 % 4294967296 / 16777216 % 256 = L % 256 by omega)]
/-- the coder's box while it runs -/
structure EB (w W : World) (B g : Nat) (s : RS) (vo vp : Value) : Prop where
  own : W.ownsRow B 5 1 vo s.os.length (byC s.os)
  pr : W.ownsRow B 2 1 vp 512 ((List.range 512).map fun j => .int .i64 (s.probs j : Int))
  below : Below B w W
  box : W.heap[g]? = some (.cells #[.int .u64 (s.low : Int), .int .u32 (s.width : Int), .int .u8 (s.held : Int), .int .i64 (s.many : Int), vo, vp] 112 (0, 0))
  gB : B ≤ g
theorem grownBy_setR (w : World) (g : Nat) (c : Array Value) : w.grownBy (w.setRow g c) (some g) :=
  ⟨rfl, rfl, rfl, by simp, fun k hk hne => setRow_other _ _ _ _ (fun e => hne (by rw [e]))⟩
theorem EB.setRow {w W W2 : World} {B g : Nat} {s t : RS} {vo vp vo2 : Value} (h : EB w W B g s vo vp) (hb : Below B W W2) (hk : KeepI W W2)
    (ho : W2.ownsRow B 5 1 vo2 t.os.length (byC t.os)) (hp : W2.ownsRow B 2 1 vp 512 ((List.range 512).map fun j => .int .i64 (t.probs j : Int))) :
    EB w (W2.setRow g #[.int .u64 (t.low : Int), .int .u32 (t.width : Int), .int .u8 (t.held : Int), .int .i64 (t.many : Int), vo2, vp]) B g t vo2 vp := by
  have hx := hk _ _ _ _ h.box (by decide) (by decide)
  refine ⟨ho.kept (grownBy_setR _ g _) (Or.inr (fun e => row_apartE (by decide) ho hx e.symm)), hp.kept (grownBy_setR _ g _) (Or.inr (fun e => row_apartE (by decide) hp hx e.symm)), ?_, setRow_heap _ _ _ _ _ _ hx, h.gB⟩
  exact (h.below.trans hb).trans ⟨rfl, rfl, rfl, by simp, fun k hk => setRow_other _ _ _ _ (by have := h.gB; omega)⟩
theorem EB.drew {w W : World} {B g : Nat} {s : RS} {vo vp : Value} (h : EB w W B g s vo vp) : EB w W.drew B g s vo vp := ⟨h.own, h.pr, h.below.drew, h.box, h.gB⟩
theorem EB.toESV {w W : World} {B g : Nat} {s : RS} {vo vp : Value} (h : EB w W B g s vo vp) : ESV W B s (.agg #[.int .u64 (s.low : Int), .int .u32 (s.width : Int), .int .u8 (s.held : Int), .int .i64 (s.many : Int), vo, vp]) vo vp := ⟨rfl, h.own, h.pr⟩
theorem probs_start : (List.replicate 512 (Value.int .i64 1024)) = (List.range 512).map fun j => Value.int .i64 (RS.start.probs j : Int) := by
  apply List.ext_getElem
  · rw [List.length_replicate, List.length_map, List.length_range]
  · intro i h1 h2
    rw [List.getElem_replicate, List.getElem_map]; rfl
set_option maxRecDepth 100000 in
set_option maxHeartbeats 4000000 in
theorem sencode_any (a : Option Addr) (c n : Nat) (F : Nat → Int × Int) (w : World) (hn : n ≤ 40000) (hr : 0 < n → ∃ g, a = some ⟨g, 0, none⟩ ∧ ChRow w g n F) (hok : ∀ i, i < n → okCh (F i)) :
    Calls Try.prog 53 #[.slice a n c] w fun e w' => e = .returned (.string (encB (RS.start.run (chL F n)))) ∧ Below w.heap.size w w' := by
  have hnI : (n : Int) ≤ 40000 := by omega
  have HR : Hid (0 < n → ∃ g, a = some ⟨g, 0, none⟩ ∧ ChRow w g n F) := hr
  have HOK : Hid (∀ i, i < n → okCh (F i)) := hok
  have HPR : Hid (∀ w, Calls Try.prog 73 #[] w fun e w' => (∃ v, e = .returned v ∧ w'.ownsRow w.heap.size 2 1 v 512 (List.replicate 512 (.int .i64 1024))) ∧ Below w.heap.size w w') := fun w => probs_any w
  have HI6 : Hid ((Try.prog.info? 112).map (·.size) = some 6) := by show _ = _; kernel_rfl
  clear hr hok
  go_enter Try.func53, Try.ntmps53
  go_wp2_with fail
  refine (HPR.out _).mono ?_
  rintro e w1 ⟨⟨vp, rfl, hown⟩, hb1⟩
  obtain ⟨pa, pl, pc, rfl⟩ := own_slice hown
  have HB1 : Hid (Below w.heap.size w w1 ∧ w1.ownsRow w.heap.size 2 1 (.slice pa pl pc) 512 (List.replicate 512 (.int .i64 1024))) := ⟨hb1, hown⟩
  clear hb1 hown HPR
  obtain ⟨gb, hgb⟩ : ∃ gb, gb = w1.heap.size := ⟨_, rfl⟩
  obtain ⟨W0, hW0⟩ : ∃ W0, W0 = w1.alloc (.cells #[.int .u64 0, .int .u32 4294967295, .int .u8 0, .int .i64 1, .slice none 0 0, .slice pa pl pc] 112) := ⟨_, rfl⟩
  have HE0 : Hid (EB w W0 w.heap.size gb (RS.start.run (chL F 0)) (.slice none 0 0) (.slice pa pl pc)) := by
      rw [hW0, hgb]
      exact ⟨World.ownsRow_nil _ _ _ _, by rw [show RS.start.run (chL F 0) = RS.start from rfl, ← probs_start]; exact HB1.out.2.alloc _, HB1.out.1.alloc HB1.out.1.size _, heap_alloc_new w1 _, HB1.out.1.size⟩
  go_wp2_with fail
  rw [← hW0, ← hgb]
  clear hW0 hgb HB1
  go_loopw [4] (fun t wr => ∃ (i : Nat) (vo : Value), i ≤ n ∧ t = .int .i64 (i : Int) ∧ Hid (EB w wr w.heap.size gb (RS.start.run (chL F i)) vo (.slice pa pl pc))) (fun t _ => n - natOfI t)
  case atStart => exact ⟨0, _, by omega, rfl, HE0⟩
  case round =>
    clear HE0
    obtain ⟨i, vo, hi, rfl, HE⟩ := hrel
    obtain ⟨va, vl, vc, rfl⟩ := own_slice HE.out.own
    by_cases hlt : i < n
    · have hltI : (i : Int) < (n : Int) := by omega
      obtain ⟨g, rfl, hRR⟩ := HR.out (by omega)
      have HRR : Hid (ChRow w g n F) := hRR
      have hrw := hRR.below HE.out.below hRR.lt
      clear hRR
      obtain ⟨q, hq⟩ : ∃ q, q = 2 * i := ⟨_, rfl⟩
      have hiq : i * 2 = q := by omega
      have x0 := hrw.x i hlt
      have x1 := hrw.b i hlt
      rw [← hq] at x0 x1
      obtain ⟨⟨o1, o2⟩, o3⟩ := HOK.out i hlt
      obtain ⟨x, hx⟩ : ∃ x : Nat, (F i).1 = (x : Int) := ⟨(F i).1.toNat, by omega⟩
      obtain ⟨b, hb⟩ : ∃ b : Nat, (F i).2 = (b : Int) := ⟨(F i).2.toNat, by omega⟩
      rw [hx] at x0 o2
      rw [hb] at x1 o3
      have HRS : Hid (RS.start.run (chL F (i + 1)) = (RS.start.run (chL F i)).put x b) := by rw [run_succ, hx, hb]; rfl
      have hfine := run_fine RS.start_fine (by decide) (chL F i)
      have hlen := run_len F i
      have hol : (RS.start.run (chL F i)).os.length + (RS.start.run (chL F i)).many ≤ 800000 := by
        have e : (RS.start.run (chL F i)).out.length = (RS.start.run (chL F i)).os.length + (RS.start.run (chL F i)).many := by
          unfold RS.out; rw [List.length_append, dg_lenM _ _ _ hfine.1.many]
        omega
      have hxn : x < 512 := by omega
      have hbn : b = 0 ∨ b = 1 := by omega
      generalize RS.start.run (chL F i) = s at HE HRS hfine hol
      have HPUT : Hid (∀ w', ESV w' w.heap.size s (.agg #[.int .u64 (s.low : Int), .int .u32 (s.width : Int), .int .u8 (s.held : Int), .int .i64 (s.many : Int), .slice va vl vc, .slice pa pl pc]) (.slice va vl vc) (.slice pa pl pc) → w.heap.size ≤ w'.heap.size → Calls Try.prog 74 #[.agg #[.int .u64 (s.low : Int), .int .u32 (s.width : Int), .int .u8 (s.held : Int), .int .i64 (s.many : Int), .slice va vl vc, .slice pa pl pc], .agg #[.int .i64 (x : Int), .int .i64 (b : Int)]] w' fun e w'' => (∃ V' vo', e = .returned V' ∧ ESV w'' w.heap.size (s.put x b) V' vo' (.slice pa pl pc)) ∧ KeepI w' w'' ∧ Below w.heap.size w' w'') := fun w' h1 h2 => sputE_any h1 h2 hfine.1 hfine.2 hol hxn hbn
      obtain ⟨S, hSS⟩ : ∃ S : World → Prop, S = fun w' => Below w.heap.size w w' := ⟨_, rfl⟩
      have HS : Hid _ := hSS
      have hSd : S wr.drew := by rw [hSS]; exact HE.out.below.drew
      have HRG : Hid (∀ w', S w' → w'.rangeAt g q [.int .i64 (x : Int), .int .i64 (b : Int)]) := fun w' hw' j v hv => by
        rw [hSS] at hw'
        have hg2 := HRR.out.lt
        match j, hv with
        | 0, hv => simp at hv; subst hv; exact (hw'.cell (p := ⟨g, q, none⟩) hg2).trans ((HE.out.below.cell (p := ⟨g, q, none⟩) hg2).symm.trans x0)
        | 1, hv => simp at hv; subst hv; exact (hw'.cell (p := ⟨g, q + 1, none⟩) hg2).trans ((HE.out.below.cell (p := ⟨g, q + 1, none⟩) hg2).symm.trans x1)
      have HXN : Hid (x < 512) := hxn
      clear hSS hrw hx hb hq x0 x1 o1 o2 o3 hfine hlen hol hxn hbn
      go_wp2_with fail
      refine wp_region_held (S := S) (by kernel_rfl) ?_
      change wpAnyH _ _ _ _ _ _ _ _ (World.drew _)
      refine wpAnyH_take (i := 1) (v := .slice (some ⟨g, 0, none⟩) n c) rfl (by kernel_rfl) (by kernel_rfl) (by kernel_rfl) (fun _ _ _ h => h) (Or.inl ⟨by rfl, by intro w' hS'; go_simp <;> (first | omega | (rw [IntKind.wrap_i64]; omega) | (rw [IntKind.wrap_u64]; omega) | (rw [IntKind.wrap_u32]; omega) | (rw [Int.tmod_eq_emod_of_nonneg (by omega)]))⟩) hSd ?_
      (try simp only [List.getElem_toArray, List.getElem_cons_succ, List.getElem_cons_zero, Act.put, List.setIfInBounds_toArray, List.set_cons_zero, List.set_cons_succ])
      refine wpAnyH_take (i := 2) (v := .int .i64 (i : Int)) rfl (by kernel_rfl) (by kernel_rfl) (by kernel_rfl) (fun _ _ _ h => h) (Or.inl ⟨by rfl, by intro w' hS'; go_simp <;> (first | omega | (rw [IntKind.wrap_i64]; omega) | (rw [IntKind.wrap_u64]; omega) | (rw [IntKind.wrap_u32]; omega) | (rw [Int.tmod_eq_emod_of_nonneg (by omega)]))⟩) hSd ?_
      (try simp only [List.getElem_toArray, List.getElem_cons_succ, List.getElem_cons_zero, Act.put, List.setIfInBounds_toArray, List.set_cons_zero, List.set_cons_succ])
      refine wpAnyH_take (i := 3) (v := .pointer (some ⟨g, q, none⟩)) rfl (by kernel_rfl) (by kernel_rfl) (by kernel_rfl) (fun _ _ _ h => h) (Or.inl ⟨by rfl, by intro w' hS'; go_simp <;> (first | omega | (rw [IntKind.wrap_i64]; omega) | (rw [IntKind.wrap_u64]; omega) | (rw [IntKind.wrap_u32]; omega) | (rw [Int.tmod_eq_emod_of_nonneg (by omega)]))⟩) hSd ?_
      (try simp only [List.getElem_toArray, List.getElem_cons_succ, List.getElem_cons_zero, Act.put, List.setIfInBounds_toArray, List.set_cons_zero, List.set_cons_succ])
      refine wpAnyH_take (i := 4) (v := .agg #[.int .i64 (x : Int), .int .i64 (b : Int)]) rfl (by kernel_rfl) (by kernel_rfl) (by kernel_rfl) (fun _ _ _ h => h) (yieldsIf_load_mid (by rfl) 108 (.tmp 17) rfl g q rfl [.int .i64 (x : Int), .int .i64 (b : Int)] _ HRG.out Try.underlying108 rfl (by kernel_rfl)) hSd ?_
      (try simp only [List.getElem_toArray, List.getElem_cons_succ, List.getElem_cons_zero, Act.put, List.setIfInBounds_toArray, List.set_cons_zero, List.set_cons_succ])
      refine held_stepS (i := 0) (by kernel_rfl) rfl (by rfl) ?_
      refine wp_load_row 112 (.tmp 3) rfl gb rfl 112 #[.int .u64 (s.low : Int), .int .u32 (s.width : Int), .int .u8 (s.held : Int), .int .i64 (s.many : Int), .slice va vl vc, .slice pa pl pc] (0, 0) _ HE.out.drew.box Try.underlying112 rfl HI6.out ?_
      refine ⟨hSd, ?_⟩
      (try simp only [List.getElem_toArray, List.getElem_cons_succ, List.getElem_cons_zero, Act.put, List.setIfInBounds_toArray, List.set_cons_zero, List.set_cons_succ])
      refine held_stepS (i := 5) (by kernel_rfl) rfl (by rfl) ?_
      go_simp
      refine (HPUT.out wr.drew HE.out.drew.toESV HE.out.drew.below.size).mono ?_
      rintro e w5 ⟨⟨V', vo', rfl, hE5⟩, hK5, hb5⟩
      obtain ⟨rfl, ho5, hp5⟩ := hE5
      have HB5 : Hid (Below w.heap.size w w5) := HE.out.drew.below.trans hb5
      have hbox5 := hK5 _ _ _ _ HE.out.drew.box (by decide) (by decide)
      have HN5 : Hid _ := HE.out.drew.setRow hb5 hK5 ho5 hp5
      have hS5 : S w5 := by rw [HS.out]; exact HB5.out
      refine ⟨hS5, ?_⟩
      (try simp only [List.getElem_toArray, List.getElem_cons_succ, List.getElem_cons_zero, Act.put, List.setIfInBounds_toArray, List.set_cons_zero, List.set_cons_succ])
      refine held_stepS (i := 6) (by kernel_rfl) rfl (by rfl) ?_
      refine wp_store_row 112 (.tmp 3) (.tmp 19) rfl gb #[.int .u64 ((s.put x b).low : Int), .int .u32 ((s.put x b).width : Int), .int .u8 ((s.put x b).held : Int), .int .i64 ((s.put x b).many : Int), vo', .slice pa pl pc] rfl rfl 112 _ hbox5 HI6.out rfl ?_ ?_
      · obtain ⟨ta, tl, tc, rfl⟩ := own_slice ho5
        simp [Value.oneCell']
      refine ⟨by rw [HS.out]; exact HN5.out.below, ?_⟩
      (try simp only [List.getElem_toArray, List.getElem_cons_succ, List.getElem_cons_zero, Act.put, List.setIfInBounds_toArray, List.set_cons_zero, List.set_cons_succ])
      refine wpAnyH_done (by kernel_rfl) ?_ _
      clear hS5 hbox5 hK5 hb5 ho5 hp5 HB5 hSd HRG HS HPUT HE
      go_wp2_with fail
      go_roundw
      case rel => exact ⟨i + 1, _, by omega, by go_num, by rw [HRS.out]; exact HN5⟩
      case measure => simp [natOfI]; omega
    · obtain rfl : i = n := by omega
      have hfine := run_fine RS.start_fine (by decide) (chL F i)
      have hlen := run_len F i
      have hol : (RS.start.run (chL F i)).os.length + (RS.start.run (chL F i)).many ≤ 800000 := by
        have e : (RS.start.run (chL F i)).out.length = (RS.start.run (chL F i)).os.length + (RS.start.run (chL F i)).many := by
          unfold RS.out; rw [List.length_append, dg_lenM _ _ _ hfine.1.many]
        omega
      have HFIN : Hid ((⟨((RS.start.run (chL F i)).shN 5 |>.os.map UInt8.ofNat).toArray⟩ : ByteArray) = encB (RS.start.run (chL F i))) := five_os hfine.1
      have HF : Hid ((RS.start.run (chL F i)).Fine) := hfine.1
      obtain ⟨s, hs⟩ : ∃ s, s = RS.start.run (chL F i) := ⟨_, rfl⟩
      have HFIN2 : Hid ((⟨(s.shN 5 |>.os.map UInt8.ofNat).toArray⟩ : ByteArray) = encB (RS.start.run (chL F i))) := by rw [hs]; exact HFIN
      rw [← hs] at HE HF hol
      have HOL : Hid (s.os.length + s.many ≤ 800000) := hol
      clear hfine hlen hol HFIN hs
      go_wp2_with fail
      go_loopw [5] (fun t wr => ∃ (j : Nat) (vo : Value), j ≤ 5 ∧ t = .int .i64 (j : Int) ∧ Hid (EB w wr w.heap.size gb (s.shN j) vo (.slice pa pl pc))) (fun t _ => 5 - natOfI t)
      case atStart => exact ⟨0, _, by omega, rfl, HE⟩
      case round =>
        clear HE
        obtain ⟨j, vo, hj, rfl, HE⟩ := hrel
        obtain ⟨ua, ul, uc, rfl⟩ := own_slice HE.out.own
        have hok := shN_ok HF.out j
        by_cases hj5 : j < 5
        · have hjI : (j : Int) < 5 := by omega
          have hol2 : (s.shN j).os.length + (s.shN j).many ≤ 900000 := by have := HOL.out; omega
          have HNX : Hid (s.shN (j + 1) = (s.shN j).sh) := rfl
          generalize s.shN j = t at HE HNX hok hol2
          have HSH : Hid (∀ w', ESV w' w.heap.size t (.agg #[.int .u64 (t.low : Int), .int .u32 (t.width : Int), .int .u8 (t.held : Int), .int .i64 (t.many : Int), .slice ua ul uc, .slice pa pl pc]) (.slice ua ul uc) (.slice pa pl pc) → w.heap.size ≤ w'.heap.size → Calls Try.prog 75 #[.agg #[.int .u64 (t.low : Int), .int .u32 (t.width : Int), .int .u8 (t.held : Int), .int .i64 (t.many : Int), .slice ua ul uc, .slice pa pl pc]] w' fun e w'' => (∃ V' vo', e = .returned V' ∧ ESV w'' w.heap.size t.sh V' vo' (.slice pa pl pc)) ∧ Keep w' w'' ∧ Below w.heap.size w' w'') := fun w' h1 h2 => shift_any h1 h2 ⟨hok.1, hok.2.1, hok.2.2.1⟩ hol2
          clear hok hol2
          go_wp2_with (refine wpList_load_row rfl 112 (.tmp 3) rfl gb rfl 112 #[.int .u64 (t.low : Int), .int .u32 (t.width : Int), .int .u8 (t.held : Int), .int .i64 (t.many : Int), .slice ua ul uc, .slice pa pl pc] (0, 0) _ HE.out.box Try.underlying112 rfl HI6.out ?_)
          refine (HSH.out _ HE.out.toESV HE.out.below.size).mono ?_
          rintro e w5 ⟨⟨V', vo', rfl, hE5⟩, hK5, hb5⟩
          obtain ⟨rfl, ho5, hp5⟩ := hE5
          have hbox5 := hK5 _ _ _ _ HE.out.box (by decide)
          have HN5 : Hid _ := HE.out.setRow hb5 (.of hK5) ho5 hp5
          obtain ⟨ta, tl, tc, rfl⟩ := own_slice ho5
          have HX5 : Hid _ := hbox5
          clear hbox5 hK5 hb5 ho5 hp5 HE HSH
          have HONE : Hid ((#[.int .u64 (t.sh.low : Int), .int .u32 (t.sh.width : Int), .int .u8 (t.sh.held : Int), .int .i64 (t.sh.many : Int), .slice ta tl tc, .slice pa pl pc] : Array Value).all (·.oneCell') = true) := by
            show _ = true
            simp [Value.oneCell']
          go_wp2_with (refine wpList_store_row rfl 112 (.tmp 3) (.tmp 25) rfl gb #[.int .u64 (t.sh.low : Int), .int .u32 (t.sh.width : Int), .int .u8 (t.sh.held : Int), .int .i64 (t.sh.many : Int), .slice ta tl tc, .slice pa pl pc] rfl rfl 112 _ HX5.out HI6.out rfl HONE.out ?_)
          go_roundw
          case rel => exact ⟨j + 1, _, by omega, by go_num, by rw [HNX.out]; exact HN5⟩
          case measure => simp [natOfI]; omega
        · obtain rfl : j = 5 := by omega
          have hbx := HE.out.box
          have HBY : Hid (∀ x ∈ (s.shN 5).os, x < 256) := hok.2.2.2.2
          have hcv : (convert 36 9 (.slice ua ul uc)).run Try.prog wr = .ok (.string ⟨((s.shN 5).os.map UInt8.ofNat).toArray⟩) wr := by
            have h := HE.out.own
            rw [byC_cells _ HBY.out] at h
            exact conv_bytes (l := (s.shN 5).os.map UInt8.ofNat) (by rw [List.length_map]; exact h)
          have b4 : wr.cell? ⟨gb, 4, none⟩ = some (.slice ua ul uc) := cell_of_row _ _ _ _ _ _ HE.out.box
          have HBF : Hid (Below w.heap.size w wr) := HE.out.below
          clear HE hok hbx HBY
          generalize s.shN 5 = t at hcv HFIN2
          go_wp2_with fail
          go_ret
          exact ⟨by rw [← HFIN2.out]; rfl, HBF.out⟩
end Go.Proofs.Ytbkjcngehhdchaa

/-!   The coder of ranges: all choices, be there any or not. -/
namespace Go.Proofs.Ytbkjcngehhdchaa
open Go.RowKit
set_option linter.unusedVariables false
set_option linter.unusedSimpArgs false
set_option maxRecDepth 100000 in
set_option maxHeartbeats 2000000 in
theorem encode_gen (a : Option Addr) (c n : Nat) (F : Nat → Int × Int) (w : World) (hn : n ≤ 40000) (hr : 0 < n → ∃ g, a = some ⟨g, 0, none⟩ ∧ ChRow w g n F) (hok : ∀ i, i < n → okCh (F i)) :
    Calls Try.prog 56 #[.slice a n c] w fun e w' => e = .returned (.tuple #[.string (encB (RS.start.run (chL F n))), .bool true]) ∧ Below w.heap.size w w' := by
  have HR : Hid (0 < n → ∃ g, a = some ⟨g, 0, none⟩ ∧ ChRow w g n F) := hr
  have HOK : Hid (∀ i, i < n → okCh (F i)) := hok
  have hnI : (n : Int) ≤ 40000 := by omega
  clear hr hok
  go_enter Try.func56, Try.ntmps56
  go_wp2_with fail
  go_loopw [14] (fun t wr => ∃ i : Nat, i ≤ n ∧ t = .int .i64 (i : Int) ∧ Hid (Below w.heap.size w wr)) (fun t _ => n - natOfI t)
  case atStart => exact ⟨0, by omega, rfl, Below.refl _ _⟩
  case round =>
    obtain ⟨i, hi, rfl, HB⟩ := hrel
    by_cases hlt : i < n
    · have hltI : (i : Int) < (n : Int) := by omega
      obtain ⟨g, rfl, hRR⟩ := HR.out (by omega)
      have hrw := hRR.below HB.out hRR.lt
      clear hRR
      obtain ⟨⟨o1, o2⟩, o3⟩ := HOK.out i hlt
      obtain ⟨q, hq⟩ : ∃ q, q = 2 * i := ⟨_, rfl⟩
      have hiq : i * 2 = q := by omega
      have x0 := hrw.x i hlt
      have x1 := hrw.b i hlt
      rw [← hq] at x0 x1
      generalize (F i).1 = x at *
      generalize (F i).2 = b at *
      have HC : Hid (∀ w, Calls Try.prog 80 #[.int .i64 x] w fun e w' => e = .returned (.bool true) ∧ w' = w) := fun w => isCtx_yes x w o1 o2
      have HBB : Hid (Below w.heap.size w (wr.alloc (.cells #[.int .i64 x, .int .i64 b] 108))) := HB.out.alloc HB.out.size _
      clear hrw hq
      go_wp2_with fail
      refine (HC.out _).mono ?_
      rintro e w' ⟨rfl, hw'⟩
      subst w'
      rcases o3 with rfl | rfl
      · go_wp2_with fail
        go_roundw
        case rel => exact ⟨i + 1, by omega, by go_num, HBB⟩
        case measure => simp [natOfI]; omega
      · go_wp2_with fail
        go_roundw
        case rel => exact ⟨i + 1, by omega, by go_num, HBB⟩
        case measure => simp [natOfI]; omega
    · obtain rfl : i = n := by omega
      have HST : Hid (∀ w, Calls Try.prog 81 #[] w fun e w' => e = .returned (.agg coder0) ∧ Below w.heap.size w w') := fun w => started_any w
      have hkz := coder0_size
      obtain ⟨Z, hZ⟩ : ∃ Z : Array Value, Z = Array.replicate 513 (Value.int .i64 0) ++ #[.int .i64 0, .slice none 0 0] := ⟨_, rfl⟩
      have hz : ∀ w, (zeroValue 126).run Try.prog w = .ok (.agg Z) w := by rw [hZ]; exact (zero_of_info (n := 515) (by kernel_rfl)).1
      have hZs : Z.size = 515 := by rw [hZ]; simp
      have hZe : ¬ Z = #[] := by intro e; rw [e] at hZs; simp at hZs
      have HE0 : Hid (∀ v, ((fillC Z coder0).setIfInBounds 514 v).size = 515 ∧ ((fillC Z coder0).setIfInBounds 514 v)[0]? = some (.int .i64 4294967295) ∧ (∀ j, j < 512 → ((fillC Z coder0).setIfInBounds 514 v)[1 + j]? = some (.int .i64 1024)) ∧ ((fillC Z coder0).setIfInBounds 514 v)[513]? = some (.int .i64 0) ∧ ((fillC Z coder0).setIfInBounds 514 v)[514]? = some v) := fun v => by
        have f0 := fill_size (Z := Z) coder0_size
        refine ⟨by rw [Array.size_setIfInBounds, f0, hZs], ?_, fun j hj => ?_, ?_, ?_⟩
        · rw [Array.getElem?_setIfInBounds_ne (by omega), fill_get coder0_size hZs, if_pos (by omega)]; exact coder0_zero
        · rw [Array.getElem?_setIfInBounds_ne (by omega), fill_get coder0_size hZs, if_pos (by omega)]; exact coder0_at hj
        · rw [Array.getElem?_setIfInBounds_ne (by omega), fill_get coder0_size hZs, if_neg (by omega), hZ, Array.getElem?_append_right (by simp)]; simp
        · rw [Array.getElem?_setIfInBounds_self_of_lt (by rw [f0, hZs]; omega)]
      have hfs : ¬ (Array.foldl (fun cs x => cs.setIfInBounds x.snd x.fst) Z coder0.zipIdx 0 513).size < 515 := by
        have := fill_size (Z := Z) coder0_size
        unfold fillC at this
        rw [this, hZs]; omega
      unfold fillC at HE0
      clear hZ
      generalize coder0 = K at HST hkz hfs HE0
      go_wp2_with fail
      refine (HST.out _).mono ?_
      rintro e w3 ⟨rfl, hb3⟩
      have HB3 : Hid (Below w.heap.size w w3) := HB.out.trans (hb3.mono HB.out.size)
      clear hb3 HB
      go_wp2_with fail
      obtain ⟨hE1, hE2, hE3, hE4, hE5⟩ := HE0.out (.slice (some ⟨w3.heap.size, 0, none⟩) 1 1)
      generalize (Array.foldl (fun cs x => cs.setIfInBounds x.snd x.fst) Z K.zipIdx 0 513).setIfInBounds 514 (.slice (some ⟨w3.heap.size, 0, none⟩) 1 1) = C0 at *
      obtain ⟨W4, hW4⟩ : ∃ W4, W4 = (w3.alloc (.cells #[.int .u8 0] 5)).alloc (.cells C0 126) := ⟨_, rfl⟩
      obtain ⟨g6, hg6⟩ : ∃ g6, g6 = w3.heap.size + 1 := ⟨_, rfl⟩
      have HES : Hid (ES W4 w.heap.size g6 (RS.start.run (chL F 0)) ∧ Below w.heap.size w W4) := by
        refine ⟨⟨C0, .slice (some ⟨w3.heap.size, 0, none⟩) 1 1, ?_⟩, ?_⟩
        · have hrow : W4.heap[g6]? = some (.cells C0 126 (0, 0)) := by
            rw [hW4, hg6]
            have h := heap_alloc_new (w3.alloc (.cells #[.int .u8 0] 5)) (.cells C0 126)
            rwa [World.size_alloc] at h
          have hown : W4.ownsRow w.heap.size 5 1 (.slice (some ⟨w3.heap.size, 0, none⟩) 1 1) 1 (byC [0]) := by
            rw [hW4]; exact World.ownsRow.alloc (⟨rfl, Or.inr ⟨w3.heap.size, 1, #[.int .u8 0], rfl, HB3.out.size, heap_alloc_new _ _, Nat.le_refl _, by unfold maxLen; omega, rfl, rfl⟩⟩ : (w3.alloc (.cells #[.int .u8 0] 5)).ownsRow w.heap.size 5 1 (.slice (some ⟨w3.heap.size, 0, none⟩) 1 1) 1 (byC [0])) _
          have e0 : (RS.start.run (chL F 0)).out = [0] := by simp [chL, RS.run, RS.start, RS.out, dg]
          exact ⟨hrow, hE1, hE2, hE3, hE4, hE5, by rw [e0]; exact hown, by rw [hg6]; have := HB3.out.size; omega⟩
        · rw [hW4]; exact (HB3.out.alloc HB3.out.size _).alloc (by have := HB3.out.size; simp; omega) _
      rw [← hW4, ← hg6]
      clear hW4 hg6 hE1 hE2 hE3 hE4 hE5 HE0 hfs hkz hZs hZe hz HST
      go_loopw [39] (fun t wr => ∃ j : Nat, j ≤ i ∧ t = .int .i64 (j : Int) ∧ Hid (ES wr w.heap.size g6 (RS.start.run (chL F j)) ∧ Below w.heap.size w wr)) (fun t _ => i - natOfI t)
      case atStart => exact ⟨0, by omega, rfl, HES.out⟩
      case round =>
        obtain ⟨j, hj, rfl, HJ⟩ := hrel
        by_cases hlt : j < i
        · have hltI : (j : Int) < (i : Int) := by omega
          obtain ⟨g, rfl, hRR⟩ := HR.out (by omega)
          have hrw := hRR.below HJ.out.2 hRR.lt
          clear hRR
          obtain ⟨⟨o1, o2⟩, o3⟩ := HOK.out j hlt
          obtain ⟨q, hq⟩ : ∃ q, q = 2 * j := ⟨_, rfl⟩
          have hiq : j * 2 = q := by omega
          have x0 := hrw.x j hlt
          have x1 := hrw.b j hlt
          rw [← hq] at x0 x1
          obtain ⟨x, hx⟩ : ∃ x : Nat, (F j).1 = (x : Int) := ⟨(F j).1.toNat, by omega⟩
          obtain ⟨b, hb⟩ : ∃ b : Nat, (F j).2 = (b : Int) := ⟨(F j).2.toNat, by omega⟩
          have hf := run_fine RS.start_fine (by decide) (chL F j)
          have hlen := run_len F j
          have HPUT : Hid (Calls Try.prog 82 #[.pointer (some ⟨g6, 0, none⟩), .agg #[.int .i64 (x : Int), .int .i64 (b : Int)]] (wr.alloc (.cells #[.int .i64 (x : Int), .int .i64 (b : Int)] 108)) fun e w' => (∃ v, e = .returned v) ∧ ES w' w.heap.size g6 (RS.start.run (chL F (j + 1))) ∧ Below w.heap.size (wr.alloc (.cells #[.int .i64 (x : Int), .int .i64 (b : Int)] 108)) w') := by
            have e1 : (F j).1.toNat = x := by omega
            have e2 : (F j).2.toNat = b := by omega
            rw [run_succ, e1, e2]
            obtain ⟨⟨C, v, hE⟩, hB⟩ := HJ.out
            exact put_any hf.1 hf.2 ⟨C, v, hE.below ((Below.refl _ wr).alloc (Nat.le_refl _) _)⟩ (by have := hB.size; simp; omega) (by omega) (by omega) (by omega)
          rw [hx] at x0
          rw [hb] at x1
          clear hrw hq hf hlen o1 o2 o3 hx hb
          go_wp2_with fail
          refine HPUT.out.mono ?_
          rintro e w5 ⟨⟨ve, rfl⟩, h5, hb5⟩
          have HN : Hid (ES w5 w.heap.size g6 (RS.start.run (chL F (j + 1))) ∧ Below w.heap.size w w5) := ⟨h5, (HJ.out.2.alloc HJ.out.2.size _).trans hb5⟩
          clear h5 hb5 HPUT
          go_wp2_with fail
          go_roundw
          case rel => exact ⟨j + 1, by omega, by go_num, HN⟩
          case measure => simp [natOfI]; omega
        · obtain rfl : j = i := by omega
          obtain ⟨⟨C, v, hE⟩, hB⟩ := HJ.out
          have hf := run_fine RS.start_fine (by decide) (chL F j)
          have hlen := run_len F j
          obtain ⟨st, hst⟩ : ∃ st, st = RS.start.run (chL F j) := ⟨_, rfl⟩
          rw [← hst] at hE hf hlen
          have HST2 : Hid (st = RS.start.run (chL F j)) := hst
          obtain ⟨lo, hlo⟩ : ∃ lo, lo = st.low % 4294967296 := ⟨_, rfl⟩
          rw [← hlo] at hE
          have hlo2 : lo < 4294967296 := by omega
          have HLO : Hid (lo = st.low % 4294967296) := hlo
          have HE : Hid (EA wr w.heap.size g6 st.width lo st.probs st.out C v) := hE
          have HBW : Hid (Below w.heap.size w wr) := hB
          obtain ⟨os, hos⟩ : ∃ os : List UInt8, os = st.out.map UInt8.ofNat := ⟨_, rfl⟩
          have hby : byC st.out = Lib.byteCells os := by rw [hos]; exact byC_cells _ hf.1.outs
          have hol : os.length = st.out.length := by rw [hos]; simp
          have HOS : Hid (os = st.out.map UInt8.ofNat) := hos
          have HCV : Hid (∀ w', Below wr.heap.size wr w' → (convert 36 9 v).run Try.prog w' = .ok (.string ⟨os.toArray⟩) w') := fun w' hb => by
            have h := (HE.out.below hb).own
            rw [hby, ← hol] at h
            exact conv_bytes h
          obtain ⟨S, hSS⟩ : ∃ S : World → Prop, S = fun w' => Below wr.heap.size wr w' := ⟨_, rfl⟩
          have hSd : S wr.drew := by rw [hSS]; exact (Below.refl _ wr).drew
          have HS : Hid (S = fun w' => Below wr.heap.size wr w') := hSS
          have HX1 : Hid (∀ w', S w' → w'.cell? ⟨g6, 514, none⟩ = some v ∧ w'.cell? ⟨g6, 513, none⟩ = some (.int .i64 (lo : Int)) ∧ (convert 36 9 v).run Try.prog w' = .ok (.string ⟨os.toArray⟩) w') := fun w' h => by
            rw [hSS] at h
            have h2 := HE.out.below h
            exact ⟨(cell_of_row w' g6 514 _ _ _ h2.row).trans h2.cs, (cell_of_row w' g6 513 _ _ _ h2.row).trans h2.cl, HCV.out w' h⟩
          have hln : (⟨os.toArray⟩ : ByteArray).size = os.length := by simp [ByteArray.size]
          have hln2 : (⟨(bigL lo 4).toArray⟩ : ByteArray).size = 4 := by simp [ByteArray.size, bigL_len]
          have hos4 : os.length ≤ 80001 := by omega
          have hcat : ¬ 9223372036854775807 < (⟨os.toArray⟩ : ByteArray).size + (⟨(bigL lo 4).toArray⟩ : ByteArray).size := by omega
          have HANS : Hid ((⟨os.toArray⟩ ++ ⟨(bigL lo 4).toArray⟩ : ByteArray) = encB (RS.start.run (chL F j))) := by show _ = _; rw [← HST2.out, HOS.out, HLO.out]; rfl
          generalize (⟨os.toArray⟩ : ByteArray) = BA at *
          generalize hBB : (⟨(bigL lo 4).toArray⟩ : ByteArray) = BB at *
          have HHI : Hid (∀ w, Calls Try.prog 57 #[.int .u64 (lo : Int), .int .i64 4] w fun e w' => e = .returned (.string BB) ∧ Below w.heap.size w w') := fun w => by rw [← hBB]; exact high_any lo 4 w (by omega) (by omega) (by omega)
          clear hE hB hf hlen hst hlo hos hby hol hSS hln hln2 hBB hos4
          go_wp2_with fail
          refine wp_region_held (S := S) (by kernel_rfl) ?_
          change wpAnyH _ _ _ _ _ _ _ _ (World.drew _)
          refine wpAnyH_take (i := 0) (v := .pointer (some ⟨g6, 0, none⟩)) rfl (by kernel_rfl) (by kernel_rfl) (by kernel_rfl) (fun _ _ _ h => h) (Or.inl ⟨by rfl, by intro w' hS'; go_simp <;> (first | omega | (rw [IntKind.wrap_i64]; omega) | (rw [IntKind.wrap_u64]; omega) | (rw [IntKind.wrap_u32]; omega) | (rw [Int.tmod_eq_emod_of_nonneg (by omega)]))⟩) hSd ?_
          (try simp only [List.getElem_toArray, List.getElem_cons_succ, List.getElem_cons_zero, Act.put, List.setIfInBounds_toArray, List.set_cons_zero, List.set_cons_succ])
          refine wpAnyH_take (i := 1) (v := .pointer (some ⟨g6, 0, none⟩)) rfl (by kernel_rfl) (by kernel_rfl) (by kernel_rfl) (fun _ _ _ h => h) (Or.inl ⟨by rfl, by intro w' hS'; go_simp <;> (first | omega | (rw [IntKind.wrap_i64]; omega) | (rw [IntKind.wrap_u64]; omega) | (rw [IntKind.wrap_u32]; omega) | (rw [Int.tmod_eq_emod_of_nonneg (by omega)]))⟩) hSd ?_
          (try simp only [List.getElem_toArray, List.getElem_cons_succ, List.getElem_cons_zero, Act.put, List.setIfInBounds_toArray, List.set_cons_zero, List.set_cons_succ])
          refine wpAnyH_take (i := 2) (v := .pointer (some ⟨g6, 514, none⟩)) rfl (by kernel_rfl) (by kernel_rfl) (by kernel_rfl) (fun _ _ _ h => h) (Or.inl ⟨by rfl, by intro w' hS'; go_simp <;> (first | omega | (rw [IntKind.wrap_i64]; omega) | (rw [IntKind.wrap_u64]; omega) | (rw [IntKind.wrap_u32]; omega) | (rw [Int.tmod_eq_emod_of_nonneg (by omega)]))⟩) hSd ?_
          (try simp only [List.getElem_toArray, List.getElem_cons_succ, List.getElem_cons_zero, Act.put, List.setIfInBounds_toArray, List.set_cons_zero, List.set_cons_succ])
          refine wpAnyH_take (i := 3) (v := v) rfl (by kernel_rfl) (by kernel_rfl) (by kernel_rfl) (fun _ _ _ h => h) (Or.inl ⟨by rfl, by intro w' hS'; have hxx := (HX1.out w' hS').1; go_simp <;> (first | omega | (rw [IntKind.wrap_i64]; omega) | (rw [IntKind.wrap_u64]; omega) | (rw [IntKind.wrap_u32]; omega) | (rw [Int.tmod_eq_emod_of_nonneg (by omega)]))⟩) hSd ?_
          (try simp only [List.getElem_toArray, List.getElem_cons_succ, List.getElem_cons_zero, Act.put, List.setIfInBounds_toArray, List.set_cons_zero, List.set_cons_succ])
          refine wpAnyH_take (i := 4) (v := .string BA) rfl (by kernel_rfl) (by kernel_rfl) (by kernel_rfl) (fun _ _ _ h => h) (Or.inl ⟨by rfl, by intro w' hS'; have hxx := (HX1.out w' hS').2.2; go_simp <;> (first | omega | (rw [IntKind.wrap_i64]; omega) | (rw [IntKind.wrap_u64]; omega) | (rw [IntKind.wrap_u32]; omega) | (rw [Int.tmod_eq_emod_of_nonneg (by omega)]))⟩) hSd ?_
          (try simp only [List.getElem_toArray, List.getElem_cons_succ, List.getElem_cons_zero, Act.put, List.setIfInBounds_toArray, List.set_cons_zero, List.set_cons_succ])
          refine wpAnyH_take (i := 5) (v := .pointer (some ⟨g6, 0, none⟩)) rfl (by kernel_rfl) (by kernel_rfl) (by kernel_rfl) (fun _ _ _ h => h) (Or.inl ⟨by rfl, by intro w' hS'; go_simp <;> (first | omega | (rw [IntKind.wrap_i64]; omega) | (rw [IntKind.wrap_u64]; omega) | (rw [IntKind.wrap_u32]; omega) | (rw [Int.tmod_eq_emod_of_nonneg (by omega)]))⟩) hSd ?_
          (try simp only [List.getElem_toArray, List.getElem_cons_succ, List.getElem_cons_zero, Act.put, List.setIfInBounds_toArray, List.set_cons_zero, List.set_cons_succ])
          refine wpAnyH_take (i := 6) (v := .pointer (some ⟨g6, 0, none⟩)) rfl (by kernel_rfl) (by kernel_rfl) (by kernel_rfl) (fun _ _ _ h => h) (Or.inl ⟨by rfl, by intro w' hS'; go_simp <;> (first | omega | (rw [IntKind.wrap_i64]; omega) | (rw [IntKind.wrap_u64]; omega) | (rw [IntKind.wrap_u32]; omega) | (rw [Int.tmod_eq_emod_of_nonneg (by omega)]))⟩) hSd ?_
          (try simp only [List.getElem_toArray, List.getElem_cons_succ, List.getElem_cons_zero, Act.put, List.setIfInBounds_toArray, List.set_cons_zero, List.set_cons_succ])
          refine wpAnyH_take (i := 7) (v := .pointer (some ⟨g6, 513, none⟩)) rfl (by kernel_rfl) (by kernel_rfl) (by kernel_rfl) (fun _ _ _ h => h) (Or.inl ⟨by rfl, by intro w' hS'; go_simp <;> (first | omega | (rw [IntKind.wrap_i64]; omega) | (rw [IntKind.wrap_u64]; omega) | (rw [IntKind.wrap_u32]; omega) | (rw [Int.tmod_eq_emod_of_nonneg (by omega)]))⟩) hSd ?_
          (try simp only [List.getElem_toArray, List.getElem_cons_succ, List.getElem_cons_zero, Act.put, List.setIfInBounds_toArray, List.set_cons_zero, List.set_cons_succ])
          refine wpAnyH_take (i := 8) (v := .int .i64 (lo : Int)) rfl (by kernel_rfl) (by kernel_rfl) (by kernel_rfl) (fun _ _ _ h => h) (Or.inl ⟨by rfl, by intro w' hS'; have hxx := (HX1.out w' hS').2.1; go_simp <;> (first | omega | (rw [IntKind.wrap_i64]; omega) | (rw [IntKind.wrap_u64]; omega) | (rw [IntKind.wrap_u32]; omega) | (rw [Int.tmod_eq_emod_of_nonneg (by omega)]))⟩) hSd ?_
          (try simp only [List.getElem_toArray, List.getElem_cons_succ, List.getElem_cons_zero, Act.put, List.setIfInBounds_toArray, List.set_cons_zero, List.set_cons_succ])
          refine wpAnyH_take (i := 9) (v := .int .u64 (lo : Int)) rfl (by kernel_rfl) (by kernel_rfl) (by kernel_rfl) (fun _ _ _ h => h) (Or.inl ⟨by rfl, by intro w' hS'; go_simp <;> (first | omega | (rw [IntKind.wrap_i64]; omega) | (rw [IntKind.wrap_u64]; omega) | (rw [IntKind.wrap_u32]; omega) | (rw [Int.tmod_eq_emod_of_nonneg (by omega)]))⟩) hSd ?_
          (try simp only [List.getElem_toArray, List.getElem_cons_succ, List.getElem_cons_zero, Act.put, List.setIfInBounds_toArray, List.set_cons_zero, List.set_cons_succ])
          refine held_stepS (i := 10) (by kernel_rfl) rfl (by rfl) ?_
          go_simp
          refine (HHI.out _).mono ?_
          rintro e w5 ⟨rfl, hb5⟩
          have hb6 : Below wr.heap.size wr w5 := ((Below.refl _ wr).drew).trans hb5
          have hS5 : S w5 := by rw [HS.out]; exact hb6
          refine ⟨hS5, ?_⟩
          (try simp only [List.getElem_toArray, List.getElem_cons_succ, List.getElem_cons_zero, Act.put, List.setIfInBounds_toArray, List.set_cons_zero, List.set_cons_succ])
          refine wpAnyH_take (i := 11) (v := .string (BA ++ BB)) rfl (by kernel_rfl) (by kernel_rfl) (by kernel_rfl) (fun _ _ _ h => h) (Or.inl ⟨by rfl, by intro w' hS'; go_simp <;> (first | omega | (rw [IntKind.wrap_i64]; omega) | (rw [IntKind.wrap_u64]; omega) | (rw [IntKind.wrap_u32]; omega) | (rw [Int.tmod_eq_emod_of_nonneg (by omega)]))⟩) hS5 ?_
          (try simp only [List.getElem_toArray, List.getElem_cons_succ, List.getElem_cons_zero, Act.put, List.setIfInBounds_toArray, List.set_cons_zero, List.set_cons_succ])
          refine wpAnyH_take (i := 12) (v := .string (BA ++ BB)) rfl (by kernel_rfl) (by kernel_rfl) (by kernel_rfl) (fun _ _ _ h => h) (Or.inl ⟨by rfl, by intro w' hS'; go_simp <;> (first | omega | (rw [IntKind.wrap_i64]; omega) | (rw [IntKind.wrap_u64]; omega) | (rw [IntKind.wrap_u32]; omega) | (rw [Int.tmod_eq_emod_of_nonneg (by omega)]))⟩) hS5 ?_
          (try simp only [List.getElem_toArray, List.getElem_cons_succ, List.getElem_cons_zero, Act.put, List.setIfInBounds_toArray, List.set_cons_zero, List.set_cons_succ])
          refine wpAnyH_take (i := 13) (v := .bool true) rfl (by kernel_rfl) (by kernel_rfl) (by kernel_rfl) (fun _ _ _ h => h) (Or.inl ⟨by rfl, by intro w' hS'; go_simp <;> (first | omega | (rw [IntKind.wrap_i64]; omega) | (rw [IntKind.wrap_u64]; omega) | (rw [IntKind.wrap_u32]; omega) | (rw [Int.tmod_eq_emod_of_nonneg (by omega)]))⟩) hS5 ?_
          (try simp only [List.getElem_toArray, List.getElem_cons_succ, List.getElem_cons_zero, Act.put, List.setIfInBounds_toArray, List.set_cons_zero, List.set_cons_succ])
          refine wpAnyH_done (by kernel_rfl) ?_ _
          go_wp2_with fail
          go_ret2
          exact ⟨by rw [← HANS.out]; rfl, HBW.out.trans (hb6.mono HBW.out.size)⟩
/-- whether all is right, and what is told then -/
def chOk (F : Nat → Int × Int) (n : Nat) : Prop := n ≤ 40000 ∧ ∀ i, i < n → okCh (F i)
noncomputable def encAns (F : Nat → Int × Int) (n : Nat) : ByteArray := open Classical in if chOk F n then encB (RS.start.run (chL F n)) else ⟨#[]⟩
noncomputable def encIs (F : Nat → Int × Int) (n : Nat) : Bool := open Classical in decide (chOk F n)
theorem encAns_yes {F : Nat → Int × Int} {n : Nat} (h : chOk F n) : encAns F n = encB (RS.start.run (chL F n)) ∧ encIs F n = true := ⟨by unfold encAns; rw [if_pos h], by unfold encIs; simp [h]⟩
theorem encAns_no {F : Nat → Int × Int} {n : Nat} (h : ¬ chOk F n) : encAns F n = ⟨#[]⟩ ∧ encIs F n = false := ⟨by unfold encAns; rw [if_neg h], by unfold encIs; simp [h]⟩
theorem first_bad (p : Nat → Prop) (n : Nat) (h : ¬ ∀ i, i < n → p i) : ∃ k, k < n ∧ (∀ i, i < k → p i) ∧ ¬ p k := by
  induction n with
  | zero => exact absurd (fun i hi => absurd hi (by omega)) h
  | succ n ih =>
    by_cases c : ∀ i, i < n → p i
    · refine ⟨n, by omega, c, fun hp => h fun i hi => ?_⟩
      by_cases e : i < n
      · exact c i e
      · obtain rfl : i = n := by omega
        exact hp
    · obtain ⟨k, h1, h2, h3⟩ := ih c
      exact ⟨k, by omega, h2, h3⟩
/-- choices as an argument -/
def ChArg (w : World) (v : Value) (n : Nat) (F : Nat → Int × Int) : Prop := ∃ a c, v = .slice a n c ∧ (0 < n → ∃ g, a = some ⟨g, 0, none⟩ ∧ ChRow w g n F)
theorem ChArg.below {w w' : World} {v : Value} {n : Nat} {F : Nat → Int × Int} (h : ChArg w v n F) (hb : Below w.heap.size w w') : ChArg w' v n F := by
  obtain ⟨a, c, h1, h2⟩ := h
  exact ⟨a, c, h1, fun h0 => by obtain ⟨g, h3, h4⟩ := h2 h0; exact ⟨g, h3, h4.below hb h4.lt⟩⟩
theorem encode_any (v : Value) (n : Nat) (F : Nat → Int × Int) (w : World) (h : ChArg w v n F) :
    Calls Try.prog 56 #[v] w fun e w' => e = .returned (.tuple #[.string (encAns F n), .bool (encIs F n)]) ∧ Below w.heap.size w w' := by
  obtain ⟨a, c, rfl, hr⟩ := h
  by_cases hok : chOk F n
  · obtain ⟨e1, e2⟩ := encAns_yes hok
    rw [e1, e2]
    exact encode_gen a c n F w hok.1 hr hok.2
  · obtain ⟨e1, e2⟩ := encAns_no hok
    rw [e1, e2]
    by_cases hn : n ≤ 40000
    · obtain ⟨k, h1, h2, h3⟩ := first_bad (fun i => okCh (F i)) n (fun c => hok ⟨hn, c⟩)
      obtain ⟨g, rfl, hrow⟩ := hr (by omega)
      exact encode_bad g c n k F w hn h1 hrow h2 h3
    · exact encode_long a c n w hn
end Go.Proofs.Ytbkjcngehhdchaa

/-!   Packs: the code's and the specification's. -/
namespace Go.Proofs.Ytbkjcngehhdchaa
open Go.RowKit
set_option linter.unusedVariables false
set_option linter.unusedSimpArgs false
def chF (L : List (Nat × Nat)) (i : Nat) : Int × Int := (((L.getD i (0, 0)).1 : Int), ((L.getD i (0, 0)).2 : Int))
theorem chF_at {L : List (Nat × Nat)} {i : Nat} (h : i < L.length) : chF L i = ((L[i].1 : Int), (L[i].2 : Int)) := by
  unfold chF; rw [List.getD_eq_getElem?_getD, List.getElem?_eq_getElem h]; rfl
theorem chL_chF (L : List (Nat × Nat)) : chL (chF L) L.length = L := by
  apply List.ext_getElem
  · simp [chL]
  · intro i h1 h2
    simp only [chL, List.getElem_map, List.getElem_range, chF_at h2, Int.toNat_natCast]
theorem own_form2' {w : World} {B n : Nat} {v : Value} {xs : List Value} (h : w.ownsRow B 108 2 v n xs) (h0 : 0 < n) :
    ∃ g cap cur, v = .slice (some ⟨g, 0, none⟩) n cap ∧ B ≤ g ∧ w.heap[g]? = some (.cells cur 108 (0, 0)) ∧ 2 * n ≤ cur.size ∧ ∀ (j : Nat) (u : Value), xs[j]? = some u → cur[j]? = some u := by
  obtain ⟨hl, ⟨_, h1⟩ | ⟨g, cap, cur, h1, h2, h3, h4, h5, h6, h7⟩⟩ := h
  · omega
  · refine ⟨g, cap, cur, h1, h2, h3, by omega, fun j u hj => ?_⟩
    rw [← h7, List.getElem?_take] at hj
    split at hj
    · simpa using hj
    · cases hj
theorem own_zero2' {w : World} {B : Nat} {v : Value} {xs : List Value} (h : w.ownsRow B 108 2 v 0 xs) : ∃ a c, v = .slice a 0 c := by
  obtain ⟨hl, ⟨h0, _⟩ | ⟨g, cap, cur, h1, _⟩⟩ := h
  · exact ⟨_, _, h0⟩
  · exact ⟨_, _, h1⟩
theorem own_chArg {w : World} {B : Nat} {v : Value} {L : List (Nat × Nat)} (h : w.ownsRow B 108 2 v L.length (cC L)) : ChArg w v L.length (chF L) := by
  by_cases h0 : 0 < L.length
  · obtain ⟨g, cap, cur, rfl, _, h3, _, h5⟩ := own_form2' h h0
    refine ⟨_, _, rfl, fun _ => ⟨g, rfl, (Array.getElem?_eq_some_iff.1 h3).1, fun i hi => ?_, fun i hi => ?_⟩⟩
    · rw [chF_at hi]; exact (cell_of_row _ _ _ _ _ _ h3).trans (h5 _ _ (cC_at L i hi).1)
    · rw [chF_at hi]; exact (cell_of_row _ _ _ _ _ _ h3).trans (h5 _ _ (cC_at L i hi).2)
  · have e : L.length = 0 := by omega
    rw [e] at h ⊢
    obtain ⟨a, c, rfl⟩ := own_zero2' h
    exact ⟨a, c, rfl, fun h => absurd h (by omega)⟩
theorem choS_chOk {s : ByteArray} (hs : s.size ≤ 4000) : chOk (chF (choS s)) (choS s).length :=
  ⟨by have := choS_len hs; omega, fun i hi => by
    rw [chF_at hi]
    have h := choS_ok hs (choS s)[i] (List.getElem_mem hi)
    exact ⟨⟨by show (0 : Int) ≤ ((choS s)[i].1 : Int); omega, by show ((choS s)[i].1 : Int) < 512; omega⟩, by show ((choS s)[i].2 : Int) = 0 ∨ ((choS s)[i].2 : Int) = 1; omega⟩⟩
/-- the bytes behind a pack's number -/
def pckR (s : ByteArray) : ByteArray := encB (RS.start.run (choS s))
def pckB (s : ByteArray) : ByteArray := ⟨(put s.size).toArray⟩ ++ pckR s
theorem bigL_len4 (n : Nat) : (bigL n 4).length = 4 := rfl
theorem pckR_size {s : ByteArray} (hs : s.size ≤ 4000) : (pckR s).size ≤ 72005 := by
  have h1 := run_len (chF (choS s)) (choS s).length
  rw [chL_chF] at h1
  have h2 := choS_len hs
  have e : (pckR s).size = (RS.start.run (choS s)).out.length + 4 := by
    unfold pckR encB
    rw [ByteArray.size_append]
    have e1 : ∀ l : List UInt8, (⟨l.toArray⟩ : ByteArray).size = l.length := fun l => by show l.toArray.size = _; simp
    rw [e1, e1, List.length_map, bigL_len4]
  omega
theorem putB_size {n : Nat} (h : n < 18446744073709551616) : (⟨(put n).toArray⟩ : ByteArray).size ≤ 10 := by
  have := put_ten h
  show ((put n).toArray).size ≤ _
  simpa using this
set_option maxRecDepth 100000 in
set_option maxHeartbeats 600000 in
theorem spack_yes (s : ByteArray) (w : World) (hs : s.size ≤ 4000) :
    Calls Try.prog 28 #[.string s] w fun e w' => e = .returned (.tuple #[.string (pckB s), .bool true]) ∧ Below w.heap.size w w' := by
  have HC : Hid (∀ w, Calls Try.prog 52 #[.string s] w fun e w' => (∃ v, e = .returned (.tuple #[v, .bool true]) ∧ ChArg w' v (choS s).length (chF (choS s))) ∧ Below w.heap.size w w') := fun w => (schoices_any s w hs).mono (by rintro e w' ⟨⟨v, rfl, h⟩, hb⟩; exact ⟨⟨v, rfl, own_chArg h⟩, hb⟩)
  have HR : Hid (∀ v w, ChArg w v (choS s).length (chF (choS s)) → Calls Try.prog 53 #[v] w fun e w' => e = .returned (.string (pckR s)) ∧ Below w.heap.size w w') := fun v w h => by
    obtain ⟨a, c, rfl, hr⟩ := h
    have h2 := sencode_any a c _ _ w (choS_chOk hs).1 hr (choS_chOk hs).2
    rw [chL_chF] at h2
    exact h2
  have HL : Hid (∀ w, Calls Try.prog 26 #[.int .i64 (s.size : Int)] w fun e w' => e = .returned (.string (⟨(put s.size).toArray⟩ : ByteArray)) ∧ Below w.heap.size w w') := fun w => by
    have hw : IntKind.u64.wrap (s.size : Int) = (s.size : Int) := by rw [IntKind.wrap_u64]; omega
    have HP : Hid (∀ w, Calls Try.prog 51 #[.int .u64 (s.size : Int)] w fun e w' => e = .returned (.string (⟨(put s.size).toArray⟩ : ByteArray)) ∧ Below w.heap.size w w') := fun w => sput_any s.size w (by omega)
    go_enter Try.func26, Try.ntmps26
    go_wp2_with fail
    refine (HP.out _).mono ?_
    rintro e w1 ⟨rfl, hb1⟩
    go_wp2_with fail
    go_ret
    exact ⟨rfl, hb1⟩
  have h1 := pckR_size hs
  have h2 := putB_size (n := s.size) (by omega)
  have HE : Hid (pckB s = (⟨(put s.size).toArray⟩ : ByteArray) ++ pckR s) := rfl
  generalize pckB s = Z at *
  generalize pckR s = Y at *
  generalize hX : (⟨(put s.size).toArray⟩ : ByteArray) = X at *
  generalize (choS s).length = N at *
  generalize chF (choS s) = F at *
  clear hs hX
  go_enter Try.func28, Try.ntmps28
  go_wp2_with fail
  refine (HC.out _).mono ?_
  rintro e w1 ⟨⟨v, rfl, ha⟩, hb1⟩
  have HA : Hid (ChArg w1 v N F) := ha
  clear ha
  go_wp2_with fail
  refine (HL.out _).mono ?_
  rintro e w2 ⟨rfl, hb2⟩
  have HA2 : Hid (ChArg w2 v N F) := HA.out.below hb2
  have hb2' := bl_trans3 hb1 hb2 hb1.size
  go_wp2_with fail
  refine (HR.out _ _ HA2.out).mono ?_
  rintro e w3 ⟨rfl, hb3⟩
  go_wp2_with fail
  go_ret2
  exact ⟨by rw [HE.out]; first | rfl | simp, bl_trans3 hb2' hb3 hb2'.size⟩
set_option maxRecDepth 100000 in
set_option maxHeartbeats 600000 in
theorem pack_yes (s : ByteArray) (w : World) (hs : s.size ≤ 4000) :
    Calls Try.prog 35 #[.string s] w fun e w' => e = .returned (.tuple #[.string (pckB s), .bool true]) ∧ Below w.heap.size w w' := by
  have HC : Hid (∀ w, Calls Try.prog 55 #[.string s] w fun e w' => (∃ v, e = .returned (.tuple #[v, .bool true]) ∧ ChArg w' v (choS s).length (chF (choS s))) ∧ Below w.heap.size w w') := fun w => (choices_any s w hs).mono (by rintro e w' ⟨⟨v, rfl, h⟩, hb⟩; exact ⟨⟨v, rfl, own_chArg h⟩, hb⟩)
  have HR : Hid (∀ v w, ChArg w v (choS s).length (chF (choS s)) → Calls Try.prog 56 #[v] w fun e w' => e = .returned (.tuple #[.string (pckR s), .bool true]) ∧ Below w.heap.size w w') := fun v w h => by
    have h2 := encode_any v _ _ w h
    obtain ⟨e1, e2⟩ := encAns_yes (choS_chOk hs)
    rw [e1, e2, chL_chF] at h2
    exact h2
  have HL : Hid (∀ w, Calls Try.prog 33 #[.int .u64 (s.size : Int)] w fun e w' => e = .returned (.string (⟨(put s.size).toArray⟩ : ByteArray)) ∧ Below w.heap.size w w') := fun w => cput_any s.size w (by omega)
  have hw : IntKind.u64.wrap (s.size : Int) = (s.size : Int) := by rw [IntKind.wrap_u64]; omega
  have h1 := pckR_size hs
  have h2 := putB_size (n := s.size) (by omega)
  have HE : Hid (pckB s = (⟨(put s.size).toArray⟩ : ByteArray) ++ pckR s) := rfl
  generalize pckB s = Z at *
  generalize pckR s = Y at *
  generalize hX : (⟨(put s.size).toArray⟩ : ByteArray) = X at *
  generalize (choS s).length = N at *
  generalize chF (choS s) = F at *
  clear hs hX
  go_enter Try.func35, Try.ntmps35
  go_wp2_with fail
  refine (HC.out _).mono ?_
  rintro e w1 ⟨⟨v, rfl, ha⟩, hb1⟩
  have HA : Hid (ChArg w1 v N F) := ha
  clear ha
  go_wp2_with fail
  refine (HR.out _ _ HA.out).mono ?_
  rintro e w2 ⟨rfl, hb2⟩
  have hb2' := bl_trans3 hb1 hb2 hb1.size
  go_wp2_with fail
  refine (HL.out _).mono ?_
  rintro e w3 ⟨rfl, hb3⟩
  go_wp2_with fail
  go_ret2
  exact ⟨by rw [HE.out]; first | rfl | simp, bl_trans3 hb2' hb3 hb2'.size⟩
set_option maxRecDepth 100000 in
theorem spack_no (s : ByteArray) (w : World) (hs : ¬ s.size ≤ 4000) :
    Calls Try.prog 28 #[.string s] w fun e w' => e = .returned (.tuple #[.string ⟨#[]⟩, .bool false]) ∧ w' = w := by
  have H : Hid (∀ w, _) := fun w => schoices_no s w hs
  clear hs
  go_enter Try.func28, Try.ntmps28
  go_wp2_with fail
  refine (H.out _).mono ?_
  rintro e w1 ⟨rfl, rfl⟩
  go_wp2_with fail
  go_ret2
  exact ⟨rfl, rfl⟩
set_option maxRecDepth 100000 in
theorem pack_no (s : ByteArray) (w : World) (hs : ¬ s.size ≤ 4000) :
    Calls Try.prog 35 #[.string s] w fun e w' => e = .returned (.tuple #[.string ⟨#[]⟩, .bool false]) ∧ w' = w := by
  have H : Hid (∀ w, _) := fun w => choices_no s w hs
  clear hs
  go_enter Try.func35, Try.ntmps35
  go_wp2_with fail
  refine (H.out _).mono ?_
  rintro e w1 ⟨rfl, rfl⟩
  go_wp2_with fail
  go_ret2
  exact ⟨rfl, rfl⟩
end Go.Proofs.Ytbkjcngehhdchaa
