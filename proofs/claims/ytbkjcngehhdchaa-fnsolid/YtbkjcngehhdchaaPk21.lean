/-
  Several texts of this seat as one: CrcC, SoM, ThrR.
-/
import Derived.Test.YtbkjcngehhdchaaPk20
import Derived.Test.YtbkjcngehhdchaaPk01
import Derived.Test.YtbkjcngehhdchaaPk03
import Derived.Test.YtbkjcngehhdchaaPk19
import Derived.Test.YtbkjcngehhdchaaPk06
import Derived.Test.YtbkjcngehhdchaaPk11
import Derived.Test.YtbkjcngehhdchaaPk04
import Derived.BigRegion

/-!   What registerBehind and the code's Crc32 answer. -/
namespace Go.Proofs.Ytbkjcngehhdchaa
open Go.RowKit

theorem crc32_step (s : ByteArray) (k : Nat) (hlt : k < s.size) {r : Nat} (hr : r = regs 3988292384 4294967295 (s.data.toList.take k)) :
    regs 3988292384 4294967295 (s.data.toList.take (k + 1)) = r / 256 ^^^ mv 3988292384 8 (r % 256 ^^^ s[k].toNat) := by
  rw [take_snoc s k hlt, regs_snoc, ← hr, mv_table]

set_option maxRecDepth 100000 in
set_option maxHeartbeats 2000000 in
theorem crc32_behind (s : ByteArray) (w : World) (hs : s.size ≤ maxLen) :
    Calls Try.prog 83 #[.int .u32 3988292384, .string s] w fun e w' => e = .returned (.int .u32 (crc32 s : Nat)) ∧ Below w.heap.size w w' := by
  unfold maxLen at hs
  obtain ⟨Z, hZ⟩ : ∃ Z : Array Value, Z = Array.replicate 256 (Value.int .u32 0) := ⟨_, rfl⟩
  have hz : ∀ w, (zeroValue 148).run Try.prog w = .ok (.agg Z) w := by rw [hZ]; exact (zero_of_info (n := 256) (by kernel_rfl)).1
  have hi41 : (Try.prog.info? 148).map (·.size) = some crc32Tab.size := by rw [crc32Tab_size]; exact (zero_of_info (v := .agg (Array.replicate 256 (Value.int .u32 0))) (by kernel_rfl)).2
  have hZs : Z.size = crc32Tab.size := by rw [hZ, crc32Tab_size]; simp
  have hZc : (Value.agg Z).cells = Z := by rw [hZ]; kernel_rfl
  clear hZ
  have HI : Hid _ := hi41
  have HZ : Hid _ := hZs
  clear hi41 hZs
  go_enter Try.func83, Try.ntmps83
  go_wp2_with fail
  refine (crc32_moves _).mono ?_
  rintro e w1 ⟨rfl, hb1⟩
  have hg1 : Hid _ := heap_alloc_last w1 (.cells Z 148)
  have hx0 : bits .xor .u32 4294967295 0 = 4294967295 := u32_xor_nat 4294967295 0 (by decide) (by decide)
  go_wp2_with (first
    | (refine wpList_store_row rfl 148 _ _ rfl w1.heap.size crc32Tab rfl rfl 148 Z hg1.out HI.out HZ.out crc32Tab_one ?_; rw [World.setRow_alloc_new]))
  clear hz hZc hx0
  go_loop [6, 14] (fun c i => ∃ k : Nat, k ≤ s.size ∧ i = .int .i64 k ∧ c = .int .u32 (regs 3988292384 4294967295 (s.data.toList.take k) : Nat)) (fun _ i => s.size - (crcIntOf i).toNat)
  case atStart => exact ⟨0, by omega, rfl, rfl⟩
  case round =>
    obtain ⟨k, hk, rfl, rfl⟩ := hrel
    by_cases hlt : k < s.size
    · have hr := crc32_lt (s.data.toList.take k)
      have hc : s[k].toNat < 256 := s[k].toNat_lt
      have hn : Hid _ := crc32_step s k hlt rfl
      generalize regs 3988292384 4294967295 (s.data.toList.take k) = r at hr hn
      have hx : bits .xor .u8 ((r : Int) % 256) (s[k].toNat : Int) = ((r % 256 ^^^ s[k].toNat : Nat) : Int) := u8_xor_nat (r % 256) s[k].toNat (by omega) hc
      have hj : r % 256 ^^^ s[k].toNat < 256 := Nat.xor_lt_two_pow (n := 8) (by omega) hc
      generalize r % 256 ^^^ s[k].toNat = j at hx hj hn
      have hcell := (World.cell?_alloc_mark w1 crc32Tab 148 (0, 0) j).trans (crc32Tab_at j hj)
      have hm : mv 3988292384 8 j < 4294967296 := mv_lt (n := 32) (by decide) 8 j (by omega)
      generalize mv 3988292384 8 j = t at hcell hm hn
      have hy : bits .xor .u32 ((r : Int) / 256) (t : Int) = ((r / 256 ^^^ t : Nat) : Int) := u32_xor_nat (r / 256) t (by omega) hm
      go_wp2_with fail
      go_round
      case rel => exact ⟨k + 1, by omega, by go_num, by rw [hn.out]⟩
      case measure => simp [crcIntOf]; omega
    · have hr := crc32_lt s.data.toList
      have hall : s.data.toList.take k = s.data.toList := List.take_of_length_le (by have : s.data.toList.length = s.size := rfl; omega)
      rw [hall]
      have hy : Hid (bits .xor .u32 4294967295 ((regs 3988292384 4294967295 s.data.toList : Nat) : Int) = ((crc32 s : Nat) : Int)) := by
        have := u32_xor_nat 4294967295 _ (by decide) hr
        rw [Nat.xor_comm] at this
        exact this
      clear hall
      generalize regs 3988292384 4294967295 s.data.toList = r at hr hy
      go_wp2_with fail
      go_ret
      exact ⟨by rw [← hy.out]; rfl, hb1.alloc hb1.size _⟩

set_option maxRecDepth 100000 in
theorem crc32_any (s : ByteArray) (w : World) (hs : s.size ≤ maxLen) :
    Calls Try.prog 58 #[.string s] w fun e w' => e = .returned (.int .u32 (crc32 s : Nat)) ∧ Below w.heap.size w w' := by
  go_enter Try.func58, Try.ntmps58
  go_wp2_with fail
  refine (crc32_behind s _ hs).mono ?_
  rintro e w1 ⟨rfl, hb1⟩
  go_wp2_with fail
  go_ret
  exact ⟨rfl, hb1⟩
end Go.Proofs.Ytbkjcngehhdchaa

/-!   The text of a block of members: plain mathematics. -/
namespace Go.Proofs.Ytbkjcngehhdchaa
open Go.RowKit
set_option linter.unusedVariables false
set_option linter.unusedSimpArgs false
def pmB (n : Nat) : ByteArray := ⟨(put n).toArray⟩
theorem pmB_size {n : Nat} (h : n < 18446744073709551616) : (pmB n).size ≤ 10 := by
  show (put n).toArray.size ≤ 10
  rw [List.size_toArray]; exact put_ten h
theorem pmT_size {s : ByteArray} (h : s.size ≤ 1100000) : (putTextOut s).size ≤ s.size + 10 := by
  have h1 := pmB_size (n := s.size) (by omega)
  show (pmB s.size ++ s).size ≤ _
  rw [ByteArray.size_append]; omega
/-- names and sizes, behind how many there are -/
def soB (F : Nat → MbI) (n : Nat) : Nat → ByteArray
  | 0 => pmB n
  | i + 1 => (soB F n i ++ putTextOut (F i).a) ++ pmB (F i).d.size
/-- all data, one behind the other -/
def alB (F : Nat → MbI) : Nat → ByteArray
  | 0 => ⟨#[]⟩
  | i + 1 => alB F i ++ (F i).d
theorem alB_size (F : Nat → MbI) : ∀ i, (alB F i).size = mbSum F i
  | 0 => rfl
  | i + 1 => by show (alB F i ++ (F i).d).size = mbSum F i + (F i).d.size; rw [ByteArray.size_append, alB_size F i]
theorem soB_size {F : Nat → MbI} {n : Nat} (hn : n ≤ 60) (hs : ∀ j, j < n → mbN (F j)) (hd : ∀ j, j < n → (F j).d.size ≤ 1100000) : ∀ i, i ≤ n → (soB F n i).size ≤ 10 + i * 150
  | 0, _ => by have := pmB_size (n := n) (by omega); show (pmB n).size ≤ _; omega
  | i + 1, hi => by
    have h1 := soB_size hn hs hd i (by omega)
    have h2 := hs i (by omega)
    have h3 := pmB_size (n := (F i).d.size) (by have := hd i (by omega); omega)
    have h4 := pmT_size (s := (F i).a) (by have := h2.2; omega)
    show ((soB F n i ++ putTextOut (F i).a) ++ pmB (F i).d.size).size ≤ _
    rw [ByteArray.size_append, ByteArray.size_append]
    have := h2.2
    omega
def sumB (s : ByteArray) : ByteArray := ⟨(bigL (crc32 s) 4).toArray⟩
theorem sumB_size (s : ByteArray) : (sumB s).size = 4 := by show (bigL (crc32 s) 4).toArray.size = 4; rw [List.size_toArray, bigL_len]
/-- the whole block -/
def soV (F : Nat → MbI) (n : Nat) : ByteArray := (soB F n n ++ putTextOut (pckB (alB F n))) ++ sumB (alB F n)
noncomputable def soT (F : Nat → MbI) (n : Nat) : ByteArray := if mbB F n then soV F n else ⟨#[]⟩
theorem soT_yes {F : Nat → MbI} {n : Nat} (h : mbR F n) : soT F n = soV F n := by unfold soT; rw [mbB_yes h]; rfl
theorem soT_no {F : Nat → MbI} {n : Nat} (h : ¬ mbR F n) : soT F n = ⟨#[]⟩ := by unfold soT; rw [mbB_no h]; rfl
theorem pck_size {s : ByteArray} (hs : s.size ≤ 4000) : (pckB s).size ≤ 72015 := by
  have h1 := pckR_size hs
  have h2 := putB_size (n := s.size) (by omega)
  unfold pckB
  rw [ByteArray.size_append]; omega
set_option maxRecDepth 100000 in
theorem smPut_any (m : Nat) (w : World) (hm : m < 9223372036854775808) : Calls Try.prog 26 #[.int .i64 (m : Int)] w fun e w' => e = .returned (.string (pmB m)) ∧ Below w.heap.size w w' := by
  have hw : IntKind.u64.wrap (m : Int) = (m : Int) := by rw [IntKind.wrap_u64]; omega
  have HP : Hid (∀ w, Calls Try.prog 51 #[.int .u64 (m : Int)] w fun e w' => e = .returned (.string (pmB m)) ∧ Below w.heap.size w w') := fun w => sput_any m w (by omega)
  go_enter Try.func26, Try.ntmps26
  go_wp2_with fail
  refine (HP.out _).mono ?_
  rintro e w1 ⟨rfl, hb1⟩
  go_wp2_with fail
  go_ret
  exact ⟨rfl, hb1⟩
theorem crc_lt (s : ByteArray) : crc32 s < 4294967296 := by
  unfold crc32
  exact Nat.xor_lt_two_pow (n := 32) (crc32_lt _) (by decide)
set_option maxRecDepth 100000 in
theorem crcOf_any (s : ByteArray) (w : World) (hs : s.size ≤ maxLen) :
    Calls Try.prog 37 #[.string s] w fun e w' => e = .returned (.string (sumB s)) ∧ Below w.heap.size w w' := by
  have hlt := crc_lt s
  have HC : Hid (∀ w, Calls Try.prog 58 #[.string s] w fun e w' => e = .returned (.int .u32 (crc32 s : Nat)) ∧ Below w.heap.size w w') := fun w => crc32_any s w hs
  have HH : Hid (∀ w, Calls Try.prog 57 #[.int .u64 ((crc32 s : Nat) : Int), .int .i64 4] w fun e w' => e = .returned (.string (sumB s)) ∧ Below w.heap.size w w') := fun w => high_any (crc32 s) 4 w (by omega) (by decide) (by decide)
  generalize crc32 s = X at HC HH hlt
  generalize sumB s = Y at HH
  have hw : IntKind.u64.wrap (X : Int) = (X : Int) := by rw [IntKind.wrap_u64]; omega
  go_enter Try.func37, Try.ntmps37
  go_wp2_with fail
  refine (HC.out _).mono ?_
  rintro e w1 ⟨rfl, hb1⟩
  go_wp2_with fail
  refine (HH.out _).mono ?_
  rintro e w2 ⟨rfl, hb2⟩
  go_wp2_with fail
  go_ret
  exact ⟨rfl, blMb hb1 hb2 hb1.size⟩
end Go.Proofs.Ytbkjcngehhdchaa

/-!   The code's way through the bits of a token, by a closure that is handed on. -/
namespace Go.Proofs.Ytbkjcngehhdchaa
open Go.RowKit
set_option linter.unusedVariables false
set_option linter.unusedSimpArgs false
set_option maxRecDepth 100000 in
set_option maxHeartbeats 1000000 in
theorem rtree_any {σ : Type} (PS : World → σ → (Nat → Prop) → Prop) (bit : σ → Nat → Nat → Nat) (nxt : σ → Nat → Nat → σ) (sz : σ → Nat) (lim : Nat) (bd bo : Nat)
    (hP : ∀ w s D c t, PS w s D → sz s ≤ lim → c < 512 → t < 2 → Calls Try.prog 87 #[.int .i64 ((c : Nat) : Int), .int .i64 ((t : Nat) : Int), .pointer (some ⟨bd, 0, none⟩), .pointer (some ⟨bo, 0, none⟩)] w fun e w' => e = .returned (.int .i64 ((bit s c t : Nat) : Int)) ∧ ∃ D', PS w' (nxt s c t) D' ∧ Kpt D w D' w')
    (hB : ∀ s c t, t < 2 → bit s c t < 2) (hS : ∀ w w' s D, PS w s D → (∀ k, D k → w'.heap[k]? = w.heap[k]?) → PS w' s D)
    (hZ : ∀ s c t, sz (nxt s c t) ≤ sz s + 1) (p5 f nb : Nat) (fI nbI v : Int) (s : σ) (D : Nat → Prop) (w : World) (hfI : fI = (f : Int)) (hnI : nbI = (nb : Int)) (hnb : nb = 8 ∨ nb = 6) (hf : f ≤ 400 ∧ (nb = 8 → f ≤ 1)) (hv : -4611686018427387904 ≤ v ∧ v < 4611686018427387904) (hps : PS w s D) (hsz : sz s + 8 ≤ lim) (hp5 : w.cell? ⟨p5, 0, none⟩ = some (.func (.func 87) #[] #[.pointer (some ⟨bd, 0, none⟩), .pointer (some ⟨bo, 0, none⟩)])) (hn5 : ¬ D p5) :
    Calls Try.prog 96 #[.int .i64 fI, .int .i64 nbI, .int .i64 v, .pointer (some ⟨p5, 0, none⟩)] w fun e w' => e = .returned (.int .i64 (((thT bit nxt f v nb 1 s).2 - 2 ^ nb : Nat) : Int)) ∧ ∃ D', PS w' (thT bit nxt f v nb 1 s).1 D' ∧ Kpt D w D' w' := by
  have HP : Hid (∀ w s D c t, PS w s D → sz s ≤ lim → c < 512 → t < 2 → Calls Try.prog 87 #[.int .i64 ((c : Nat) : Int), .int .i64 ((t : Nat) : Int), .pointer (some ⟨bd, 0, none⟩), .pointer (some ⟨bo, 0, none⟩)] w fun e w' => e = .returned (.int .i64 ((bit s c t : Nat) : Int)) ∧ ∃ D', PS w' (nxt s c t) D' ∧ Kpt D w D' w') := hP
  have HB : Hid (∀ s c t, t < 2 → bit s c t < 2) := hB
  have HS : Hid (∀ w w' s D, PS w s D → (∀ k, D k → w'.heap[k]? = w.heap[k]?) → PS w' s D) := hS
  obtain ⟨R, hR⟩ : ∃ R, R = thT bit nxt f v nb 1 s := ⟨_, rfl⟩
  have HR : Hid (R = thT bit nxt f v nb 1 s) := hR
  rw [← hR]
  have HPS : Hid (PS w s D) := hps
  have HZ : Hid (∀ s c t, sz (nxt s c t) ≤ sz s + 1) := hZ
  have HSZ : Hid (sz s + 8 ≤ lim) := hsz
  have HP5 : Hid (w.cell? ⟨p5, 0, none⟩ = some (.func (.func 87) #[] #[.pointer (some ⟨bd, 0, none⟩), .pointer (some ⟨bo, 0, none⟩)]) ∧ ¬ D p5) := ⟨hp5, hn5⟩
  have HFB : Hid (nb ≤ 8 ∧ ∀ j d, j < nb → d < 2 ^ (nb - j) → f + d < 512) := by
    rcases hnb with rfl | rfl
    · refine ⟨by omega, fun j d hj hd => ?_⟩
      have := hf.2 rfl
      have : 2 ^ (8 - j) ≤ 2 ^ 8 := Nat.pow_le_pow_right (by omega) (by omega)
      omega
    · refine ⟨by omega, fun j d hj hd => ?_⟩
      have : 2 ^ (6 - j) ≤ 2 ^ 6 := Nat.pow_le_pow_right (by omega) (by omega)
      omega
  have HN : Hid (nb = 8 ∨ nb = 6) := hnb
  have hnb8 : nb ≤ 8 := HFB.out.1
  have hf4 := hf.1
  obtain ⟨hv1, hv2⟩ := hv
  subst hfI
  subst hnI
  clear hP hB hS hR hps hZ hsz hp5 hn5 hnb hf
  go_enter Try.func96, Try.ntmps96
  go_wp2_with fail
  go_loopw [8, 9] (fun x i wr => ∃ (k d : Nat) (s1 : σ) (D1 : Nat → Prop), x = .int .i64 (d : Int) ∧ i = .int .i64 ((k : Int) - 1) ∧ k ≤ nb ∧ d < 2 ^ (nb - k + 1) ∧ 2 ^ (nb - k) ≤ d ∧ Hid (R = thT bit nxt f v k d s1) ∧ Hid (PS wr s1 D1 ∧ Kpt D w D1 wr) ∧ Hid (sz s1 + k ≤ sz s + nb)) (fun _ i _ => (nIntT i + 1).toNat)
  case atStart => exact ⟨nb, 1, s, D, rfl, rfl, Nat.le_refl _, by rw [Nat.sub_self]; decide, by rw [Nat.sub_self]; decide, HR, ⟨HPS.out, Kpt.refl _ _⟩, Nat.le_refl _⟩
  case round =>
    obtain ⟨k, d, s1, D1, rfl, rfl, hk, hd, hd1, HRR, HK, HZ1⟩ := hrel
    have hd9 : d < 512 := Nat.lt_of_lt_of_le hd (Nat.pow_le_pow_right (by omega) (by omega : nb - k + 1 ≤ 9))
    by_cases hk0 : k = 0
    · subst hk0
      have HF : Hid (R = (s1, d) ∧ 2 ^ nb ≤ d ∧ PS wr s1 D1 ∧ Kpt D w D1 wr) := ⟨HRR.out, hd1, HK.out⟩
      clear hd hd1 HRR HK hk HZ1
      rcases HN.out with e | e
      · subst e
        have hge : (256 : Nat) ≤ d := HF.out.2.1
        have hsb : (d : Int) - 256 = ((d - 256 : Nat) : Int) := by omega
        have hsw : IntKind.i64.wrap ((d : Int) - 256) = ((d - 256 : Nat) : Int) := by rw [IntKind.wrap_i64]; omega
        go_wp2_with fail
        go_ret
        exact ⟨by rw [HF.out.1]; first | rfl | (simp only []; rw [← hsb]; rfl), by rw [HF.out.1]; exact ⟨D1, HF.out.2.2⟩⟩
      · subst e
        have hge : (64 : Nat) ≤ d := HF.out.2.1
        have hsb : (d : Int) - 64 = ((d - 64 : Nat) : Int) := by omega
        have hsw : IntKind.i64.wrap ((d : Int) - 64) = ((d - 64 : Nat) : Int) := by rw [IntKind.wrap_i64]; omega
        go_wp2_with fail
        go_ret
        exact ⟨by rw [HF.out.1]; first | rfl | (simp only []; rw [← hsb]; rfl), by rw [HF.out.1]; exact ⟨D1, HF.out.2.2⟩⟩
    · obtain ⟨j, rfl⟩ : ∃ j, k = j + 1 := ⟨k - 1, by omega⟩
      have e1 : ((j + 1 : Nat) : Int) - 1 = (j : Int) := by omega
      rw [e1]
      obtain ⟨q, hq⟩ : ∃ q, q = v / (2 : Int) ^ j := ⟨_, rfl⟩
      obtain ⟨t, ht⟩ : ∃ t, t = tvT v j := ⟨_, rfl⟩
      have hshr : v / (2 : Int) ^ j = q := hq.symm
      have htq : q % 2 = (t : Int) := by rw [ht, hq]; unfold tvT; omega
      have ht2 : t < 2 := by omega
      have hqb : -4611686018427387904 ≤ q ∧ q < 4611686018427387904 := by rw [hq]; exact div_bd hv1 hv2 j
      have hand : bits .and .i64 q 1 = (t : Int) := by rw [i64_and1 _ (by omega) (by omega)]; exact htq
      obtain ⟨z, hz⟩ : ∃ z, z = f + d := ⟨_, rfl⟩
      have hz5 : z < 512 := by
        have := HFB.out.2 j d (by omega) (by have e : nb - j = nb - (j + 1) + 1 := by omega
                                             rw [e]; exact hd)
        omega
      have hw1 : IntKind.i64.wrap ((f : Int) + (d : Int)) = (z : Int) := by rw [IntKind.wrap_i64]; omega
      have hw1b : (f : Int) + (d : Int) = (z : Int) := by omega
      have hw2 : IntKind.i64.wrap (2 * (d : Int)) = 2 * (d : Int) := by rw [IntKind.wrap_i64]; omega
      have hb := HB.out s1 z t ht2
      obtain ⟨bt, hbt⟩ : ∃ bt, bt = bit s1 z t := ⟨_, rfl⟩
      rw [← hbt] at hb
      obtain ⟨nd, hnd⟩ : ∃ nd, nd = 2 * d + bt := ⟨_, rfl⟩
      have hw3b : 2 * (d : Int) + (bt : Int) = (nd : Int) := by omega
      have hw3 : IntKind.i64.wrap (nd : Int) = (nd : Int) := by rw [IntKind.wrap_i64]; omega
      have HRN : Hid (R = thT bit nxt f v j nd (nxt s1 z t)) := by
        show R = _
        rw [HRR.out, thT, ← ht, ← hz, ← hbt, ← hnd]
      have HPC : Hid (Calls Try.prog 87 #[.int .i64 (z : Int), .int .i64 (t : Int), .pointer (some ⟨bd, 0, none⟩), .pointer (some ⟨bo, 0, none⟩)] wr.drew fun e w' => e = .returned (.int .i64 (bt : Int)) ∧ ∃ D', PS w' (nxt s1 z t) D' ∧ Kpt D1 wr.drew D' w') := by
        have h := HP.out wr.drew s1 D1 z t (HS.out wr wr.drew s1 D1 HK.out.1 (fun _ _ => rfl)) (by have h1 := HZ1.out; have h2 := HSZ.out; omega) hz5 ht2
        rw [← hbt] at h
        exact h
      have hnd2 : nd < 2 ^ (nb - j + 1) ∧ 2 ^ (nb - j) ≤ nd := by
        have e : nb - j = nb - (j + 1) + 1 := by omega
        rw [e, Nat.pow_succ, Nat.pow_succ]
        rw [Nat.pow_succ] at hd
        omega
      have hlt5 : p5 < w.heap.size := World.block_lt_of_cell? w ⟨p5, 0, none⟩ HP5.out.1
      have x5 : wr.cell? ⟨p5, 0, none⟩ = some (.func (.func 87) #[] #[.pointer (some ⟨bd, 0, none⟩), .pointer (some ⟨bo, 0, none⟩)]) := (World.cell?_of_block (a := ⟨p5, 0, none⟩) (HK.out.2.block p5 hlt5 HP5.out.2)).trans HP5.out.1
      have H5 : Hid (p5 < wr.heap.size ∧ ¬ D1 p5) := ⟨Nat.lt_of_lt_of_le hlt5 HK.out.2.size, HK.out.2.out hlt5 HP5.out.2⟩
      have HZN : Hid (sz (nxt s1 z t) + j ≤ sz s + nb) := by
        have h1 := HZ1.out
        have h2 := HZ.out s1 z t
        show _ ≤ _
        omega
      clear hd hd1 HRR HZ1 hq ht hz hbt hnd htq hqb hlt5 hz5 e1
      go_wp2_with fail
      obtain ⟨S, hSS⟩ : ∃ S : World → Prop, S = fun w' => w'.cell? ⟨p5, 0, none⟩ = some (.func (.func 87) #[] #[.pointer (some ⟨bd, 0, none⟩), .pointer (some ⟨bo, 0, none⟩)]) := ⟨_, rfl⟩
      have HSS : Hid (S = fun w' => w'.cell? ⟨p5, 0, none⟩ = some (.func (.func 87) #[] #[.pointer (some ⟨bd, 0, none⟩), .pointer (some ⟨bo, 0, none⟩)])) := hSS
      have hSd : S wr.drew := by rw [hSS]; exact x5
      have HX5 : Hid (∀ w', S w' → w'.cell? ⟨p5, 0, none⟩ = some (.func (.func 87) #[] #[.pointer (some ⟨bd, 0, none⟩), .pointer (some ⟨bo, 0, none⟩)])) := fun w' h => by rw [hSS] at h; exact h
      clear hSS x5
      refine wp_region_held (S := S) (by kernel_rfl) ?_
      change wpAnyH _ _ _ _ _ _ _ _ (World.drew _)
      refine wpAnyH_take (i := 0) (v := .int .i64 (d : Int)) rfl (by kernel_rfl) (by kernel_rfl) (by kernel_rfl) (fun _ _ _ h => h) (Or.inl ⟨by rfl, by intro w' hS'; go_simp <;> (first | omega | (rw [IntKind.wrap_i64]; omega) | (rw [IntKind.wrap_u64]; omega) | (rw [IntKind.wrap_u32]; omega) | (rw [Int.tmod_eq_emod_of_nonneg (by omega)]))⟩) hSd ?_
      (try simp only [List.getElem_toArray, List.getElem_cons_succ, List.getElem_cons_zero, Act.put, List.setIfInBounds_toArray, List.set_cons_zero, List.set_cons_succ])
      refine wpAnyH_take (i := 1) (v := .int .i64 (2 * (d : Int))) rfl (by kernel_rfl) (by kernel_rfl) (by kernel_rfl) (fun _ _ _ h => h) (Or.inl ⟨by rfl, by intro w' hS'; go_simp <;> (first | omega | (rw [IntKind.wrap_i64]; omega) | (rw [IntKind.wrap_u64]; omega) | (rw [IntKind.wrap_u32]; omega) | (rw [Int.tmod_eq_emod_of_nonneg (by omega)]))⟩) hSd ?_
      (try simp only [List.getElem_toArray, List.getElem_cons_succ, List.getElem_cons_zero, Act.put, List.setIfInBounds_toArray, List.set_cons_zero, List.set_cons_succ])
      refine wpAnyH_take (i := 2) (v := .func (.func 87) #[] #[.pointer (some ⟨bd, 0, none⟩), .pointer (some ⟨bo, 0, none⟩)]) rfl (by kernel_rfl) (by kernel_rfl) (by kernel_rfl) (fun _ _ _ h => h) (Or.inl ⟨by rfl, by intro w' hS'; have hxx := HX5.out w' hS'; go_simp <;> (first | omega | (rw [IntKind.wrap_i64]; omega) | (rw [IntKind.wrap_u64]; omega) | (rw [IntKind.wrap_u32]; omega) | (rw [Int.tmod_eq_emod_of_nonneg (by omega)]))⟩) hSd ?_
      (try simp only [List.getElem_toArray, List.getElem_cons_succ, List.getElem_cons_zero, Act.put, List.setIfInBounds_toArray, List.set_cons_zero, List.set_cons_succ])
      refine wpAnyH_take (i := 3) (v := .int .i64 (f : Int)) rfl (by kernel_rfl) (by kernel_rfl) (by kernel_rfl) (fun _ _ _ h => h) (Or.inl ⟨by rfl, by intro w' hS'; go_simp <;> (first | omega | (rw [IntKind.wrap_i64]; omega) | (rw [IntKind.wrap_u64]; omega) | (rw [IntKind.wrap_u32]; omega) | (rw [Int.tmod_eq_emod_of_nonneg (by omega)]))⟩) hSd ?_
      (try simp only [List.getElem_toArray, List.getElem_cons_succ, List.getElem_cons_zero, Act.put, List.setIfInBounds_toArray, List.set_cons_zero, List.set_cons_succ])
      refine wpAnyH_take (i := 4) (v := .int .i64 (d : Int)) rfl (by kernel_rfl) (by kernel_rfl) (by kernel_rfl) (fun _ _ _ h => h) (Or.inl ⟨by rfl, by intro w' hS'; go_simp <;> (first | omega | (rw [IntKind.wrap_i64]; omega) | (rw [IntKind.wrap_u64]; omega) | (rw [IntKind.wrap_u32]; omega) | (rw [Int.tmod_eq_emod_of_nonneg (by omega)]))⟩) hSd ?_
      (try simp only [List.getElem_toArray, List.getElem_cons_succ, List.getElem_cons_zero, Act.put, List.setIfInBounds_toArray, List.set_cons_zero, List.set_cons_succ])
      refine wpAnyH_take (i := 5) (v := .int .i64 (z : Int)) rfl (by kernel_rfl) (by kernel_rfl) (by kernel_rfl) (fun _ _ _ h => h) (Or.inl ⟨by rfl, by intro w' hS'; go_simp <;> (first | omega | (rw [IntKind.wrap_i64]; omega) | (rw [IntKind.wrap_u64]; omega) | (rw [IntKind.wrap_u32]; omega) | (rw [Int.tmod_eq_emod_of_nonneg (by omega)]))⟩) hSd ?_
      (try simp only [List.getElem_toArray, List.getElem_cons_succ, List.getElem_cons_zero, Act.put, List.setIfInBounds_toArray, List.set_cons_zero, List.set_cons_succ])
      refine wpAnyH_take (i := 6) (v := .int .i64 v) rfl (by kernel_rfl) (by kernel_rfl) (by kernel_rfl) (fun _ _ _ h => h) (Or.inl ⟨by rfl, by intro w' hS'; go_simp <;> (first | omega | (rw [IntKind.wrap_i64]; omega) | (rw [IntKind.wrap_u64]; omega) | (rw [IntKind.wrap_u32]; omega) | (rw [Int.tmod_eq_emod_of_nonneg (by omega)]))⟩) hSd ?_
      (try simp only [List.getElem_toArray, List.getElem_cons_succ, List.getElem_cons_zero, Act.put, List.setIfInBounds_toArray, List.set_cons_zero, List.set_cons_succ])
      refine wpAnyH_take (i := 7) (v := .int .i64 (j : Int)) rfl (by kernel_rfl) (by kernel_rfl) (by kernel_rfl) (fun _ _ _ h => h) (Or.inl ⟨by rfl, by intro w' hS'; go_simp <;> (first | omega | (rw [IntKind.wrap_i64]; omega) | (rw [IntKind.wrap_u64]; omega) | (rw [IntKind.wrap_u32]; omega) | (rw [Int.tmod_eq_emod_of_nonneg (by omega)]))⟩) hSd ?_
      (try simp only [List.getElem_toArray, List.getElem_cons_succ, List.getElem_cons_zero, Act.put, List.setIfInBounds_toArray, List.set_cons_zero, List.set_cons_succ])
      refine wpAnyH_take (i := 8) (v := .int .i64 q) rfl (by kernel_rfl) (by kernel_rfl) (by kernel_rfl) (fun _ _ _ h => h) (Or.inl ⟨by rfl, by intro w' hS'; go_simp <;> (first | omega | (rw [IntKind.wrap_i64]; omega) | (rw [IntKind.wrap_u64]; omega) | (rw [IntKind.wrap_u32]; omega) | (rw [Int.tmod_eq_emod_of_nonneg (by omega)]))⟩) hSd ?_
      (try simp only [List.getElem_toArray, List.getElem_cons_succ, List.getElem_cons_zero, Act.put, List.setIfInBounds_toArray, List.set_cons_zero, List.set_cons_succ])
      refine wpAnyH_take (i := 9) (v := .int .i64 (t : Int)) rfl (by kernel_rfl) (by kernel_rfl) (by kernel_rfl) (fun _ _ _ h => h) (Or.inl ⟨by rfl, by intro w' hS'; go_simp <;> (first | omega | (rw [IntKind.wrap_i64]; omega) | (rw [IntKind.wrap_u64]; omega) | (rw [IntKind.wrap_u32]; omega) | (rw [Int.tmod_eq_emod_of_nonneg (by omega)]))⟩) hSd ?_
      (try simp only [List.getElem_toArray, List.getElem_cons_succ, List.getElem_cons_zero, Act.put, List.setIfInBounds_toArray, List.set_cons_zero, List.set_cons_succ])
      refine held_stepS (i := 10) (by kernel_rfl) rfl (by rfl) ?_
      go_simp
      refine HPC.out.mono ?_
      rintro e w5 ⟨rfl, D2, hp5, hk5⟩
      have hkk : Kpt D w D2 w5 := HK.out.2.trans (⟨hk5.os, hk5.tape, hk5.output, hk5.size, hk5.block, hk5.sub⟩ : Kpt D1 wr D2 w5)
      have hS5 : S w5 := by rw [HSS.out]; exact (World.cell?_of_block (a := ⟨p5, 0, none⟩) (hk5.block p5 H5.out.1 H5.out.2)).trans (HX5.out _ hSd)
      refine ⟨hS5, ?_⟩
      (try simp only [List.getElem_toArray, List.getElem_cons_succ, List.getElem_cons_zero, Act.put, List.setIfInBounds_toArray, List.set_cons_zero, List.set_cons_succ])
      refine wpAnyH_take (i := 11) (v := .int .i64 (nd : Int)) rfl (by kernel_rfl) (by kernel_rfl) (by kernel_rfl) (fun _ _ _ h => h) (Or.inl ⟨by rfl, by intro w' hS'; go_simp <;> (first | omega | (rw [IntKind.wrap_i64]; omega) | (rw [IntKind.wrap_u64]; omega) | (rw [IntKind.wrap_u32]; omega) | (rw [Int.tmod_eq_emod_of_nonneg (by omega)]))⟩) hS5 ?_
      (try simp only [List.getElem_toArray, List.getElem_cons_succ, List.getElem_cons_zero, Act.put, List.setIfInBounds_toArray, List.set_cons_zero, List.set_cons_succ])
      refine wpAnyH_take (i := 12) (v := .int .i64 (nd : Int)) rfl (by kernel_rfl) (by kernel_rfl) (by kernel_rfl) (fun _ _ _ h => h) (Or.inl ⟨by rfl, by intro w' hS'; go_simp <;> (first | omega | (rw [IntKind.wrap_i64]; omega) | (rw [IntKind.wrap_u64]; omega) | (rw [IntKind.wrap_u32]; omega) | (rw [Int.tmod_eq_emod_of_nonneg (by omega)]))⟩) hS5 ?_
      (try simp only [List.getElem_toArray, List.getElem_cons_succ, List.getElem_cons_zero, Act.put, List.setIfInBounds_toArray, List.set_cons_zero, List.set_cons_succ])
      refine wpAnyH_done (by kernel_rfl) ?_ _
      have HK5 : Hid (PS w5 (nxt s1 z t) D2 ∧ Kpt D w D2 w5) := ⟨hp5, hkk⟩
      clear hp5 hk5 hkk hS5 hSd HX5 HSS HPC HK H5
      go_wp2_with fail
      go_roundw
      case rel => exact ⟨j, nd, nxt s1 z t, D2, rfl, rfl, by omega, hnd2.1, hnd2.2, HRN, HK5.out, HZN.out⟩
      case measure => simp [nIntT] <;> omega
end Go.Proofs.Ytbkjcngehhdchaa
