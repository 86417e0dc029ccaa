/-
  The text of a tree: the code's.
-/
import Derived.Test.YtadimakdjndcdaeDoorTxM
import Derived.Test.YtadimakdjndcdaeDoorBldK
namespace Go.Proofs.YtadimakdjndcdaeDoor
open Go.RowKit
set_option linter.unusedVariables false
set_option linter.unusedSimpArgs false
theorem row_ltT {w : World} {g : Nat} {X : Obj} (h : w.heap[g]? = some X) : g < w.heap.size := (Array.getElem?_eq_some_iff.1 h).1
set_option maxRecDepth 100000 in
set_option maxHeartbeats 4000000 in
theorem tx_yes (a : Option Addr) (c n : Nat) (F : Nat → NdI) (w : World) (hF : NdLe F n) (hm : MxL w) (hok : ndR F n) (hr : 0 < n → ∃ g, a = some ⟨g, 0, none⟩ ∧ NdRow w g n F) :
    Calls Tryd.prog 16 #[.slice a n c] w fun e w' => e = .returned (.string (txB F n n)) ∧ Below w.heap.size w w' := by
  have hnI : (n : Int) ≤ 40 := by have := hok.1; omega
  have hwn : IntKind.u64.wrap (n : Int) = (n : Int) := by rw [IntKind.wrap_u64]; omega
  have HK : Hid (Calls Tryd.prog 19 #[.slice a n c] w fun e w' => e = .returned (.bool true) ∧ Below w.heap.size w w') := by
    have h2 := treeOk_any (.slice a n c) n F w hF hm ⟨a, c, rfl, hr⟩
    rw [ndB_yes hok] at h2
    exact h2
  have HP : Hid (∀ (m : Nat) w, m < 18446744073709551616 → Calls Tryd.prog 44 #[.int .u64 (m : Int)] w fun e w' => e = .returned (.string (pnB m)) ∧ Below w.heap.size w w') := fun m w h => cput_any m w h
  have HPT : Hid (∀ (s : ByteArray) w, s.size ≤ 1048576 → Calls Tryd.prog 45 #[.string s] w fun e w' => e = .returned (.string (putTextOut s)) ∧ Below w.heap.size w w') := fun s w h => cputText_any s w (by omega)
  have HR : Hid (∀ w', Below w.heap.size w w' → 0 < n → ∃ g, a = some ⟨g, 0, none⟩ ∧ NdRow w' g n F) := fun w' hb h0 => by
    obtain ⟨g, h1, h2⟩ := hr h0
    exact ⟨g, h1, h2.below hb h2.lt⟩
  have HO : Hid (ndR F n ∧ ∀ i, i < n → (F i).p.size ≤ 1048576 ∧ (F i).d.size ≤ 1048576) := ⟨hok, fun i hi => hF.s hi⟩
  have hpn := pnB_size (n := n) (by omega)
  clear hr hok hF hm
  go_enter Tryd.func16, Tryd.ntmps16
  go_wp2_with fail
  refine HK.out.mono ?_
  rintro e w1 ⟨rfl, hb1⟩
  have HB1 : Hid (Below w.heap.size w w1) := hb1
  have HBL : Hid (BldK w1.heap.size w1.heap.size ⟨#[]⟩ (w1.alloc (.cells #[.pointer none, .slice none 0 0] 57))) := bldk_new w1
  have HB2 : Hid (Below w.heap.size w (w1.alloc (.cells #[.pointer none, .slice none 0 0] 57))) := hb1.alloc hb1.size _
  clear hb1 HK
  go_wp2_with fail
  refine (HP.out n _ (by omega)).mono ?_
  rintro e w2 ⟨rfl, hb2⟩
  have HBL2 : Hid (BldK w1.heap.size w1.heap.size ⟨#[]⟩ w2) := HBL.out.call hb2
  have HB3 : Hid (Below w.heap.size w w2) := blNd HB2.out hb2 HB2.out.size
  have hws : w1.heap.size ≤ w2.heap.size := by have := hb2.size; simp at this; omega
  clear hb2 HBL HB2
  go_wp2_with fail
  refine (bldk_add w1.heap.size w1.heap.size ⟨#[]⟩ (pnB n) _ HBL2.out (by show 0 + _ ≤ _; omega) hws).mono ?_
  rintro e w3 ⟨rfl, hbl3, hb3, _⟩
  have e0 : (⟨#[]⟩ : ByteArray) ++ pnB n = txB F n 0 := by show ByteArray.empty ++ pnB n = pnB n; rw [ByteArray.empty_append]
  rw [e0] at hbl3
  have HBL3 : Hid (BldK w1.heap.size w1.heap.size (txB F n 0) w3) := hbl3
  have HB4 : Hid (Below w.heap.size w w3) := HB3.out.trans (hb3.mono HB1.out.size)
  have hws3 : w1.heap.size ≤ w3.heap.size := by have := hb3.size; omega
  clear hb3 hbl3 e0 HBL2 HB3 hws
  go_wp2_with fail
  go_loopw [16] (fun v wr => ∃ (i : Nat), i ≤ n ∧ v = .int .i64 (i : Int) ∧ w1.heap.size ≤ wr.heap.size ∧ Hid (BldK w1.heap.size w1.heap.size (txB F n i) wr) ∧ Hid (Below w.heap.size w wr)) (fun v _ => n - (trI v).toNat)
  case atStart => exact ⟨0, by omega, rfl, hws3, HBL3, HB4⟩
  case round =>
    clear HBL3 HB4 hws3
    obtain ⟨i, hi, rfl, hws, HBL, HB⟩ := hrel
    by_cases hlt : i < n
    · have hltI : (i : Int) < (n : Int) := by omega
      obtain ⟨g, rfl, hrow⟩ := HR.out _ HB.out (by omega)
      obtain ⟨q, hq⟩ : ∃ q, q = 4 * i := ⟨_, rfl⟩
      have x0 := hrow.c0 i hlt
      have x1 := hrow.c1 i hlt
      have x2 := hrow.c2 i hlt
      have x3 := hrow.c3 i hlt
      rw [← hq] at x0 x1 x2 x3
      have hiq : i * 4 = q := by omega
      have hsz := HO.out.2 i hlt
      have hmm := (HO.out.1.2 i hlt).1.2.1
      have hle := txB_size (F := F) (n := n) (i := i) HO.out.1.1 (by omega) HO.out.2 (fun j hj => (HO.out.1.2 j hj).1.2.1)
      have hi40 := HO.out.1.1
      have hle2 : (txB F n i).size ≤ 1000000000 := by omega
      have HY : Hid ((F i).r = true → txB F n (i + 1) = (txB F n i ++ putTextOut (F i).p) ++ pnB (2 * (F i).m.toNat + 1)) := fun h => txB_dir h
      have HN : Hid ((F i).r = false → txB F n (i + 1) = ((txB F n i ++ putTextOut (F i).p) ++ pnB (2 * (F i).m.toNat)) ++ putTextOut (F i).d) := fun h => txB_file h
      clear hrow hq hle hi40
      generalize F i = p at x0 x1 x2 x3 hsz hmm HY HN
      generalize txB F n i = acc at hle2 HY HN HBL
      obtain ⟨pp, pr, pm, pd⟩ := p
      simp only at x0 x1 x2 x3 hsz hmm HY HN
      obtain ⟨m2, rfl⟩ : ∃ m2 : Nat, pm = (m2 : Int) := ⟨pm.toNat, by omega⟩
      simp only [Int.toNat_natCast] at HY HN
      obtain ⟨k2, hk2⟩ : ∃ k2, k2 = 2 * m2 := ⟨_, rfl⟩
      rw [← hk2] at HY HN
      have hw2 : IntKind.i64.wrap (2 * (m2 : Int)) = (k2 : Int) := by rw [IntKind.wrap_i64]; omega
      have hk2b : k2 ≤ 1022 := by omega
      have hpx := pxT_size hsz.1
      have hpd := pxT_size hsz.2
      have hgt : w1.heap.size < wr.heap.size := HBL.out.lt
      have hra : (wr.alloc (.cells #[.string pp, .bool pr, .int .i64 (m2 : Int), .string pd] 38)).heap[wr.heap.size]? = some (.cells #[.string pp, .bool pr, .int .i64 (m2 : Int), .string pd] 38 (0, 0)) := heap_alloc_new wr _
      have HRA := hidT hra
      have HBLA : Hid (BldK w1.heap.size w1.heap.size acc (wr.alloc (.cells #[.string pp, .bool pr, .int .i64 (m2 : Int), .string pd] 38))) := HBL.out.alloc _
      have HBA : Hid (Below w.heap.size w (wr.alloc (.cells #[.string pp, .bool pr, .int .i64 (m2 : Int), .string pd] 38))) := HB.out.alloc HB.out.size _
      clear hra HBL HB hk2
      go_wp2_with fail
      refine (HPT.out pp _ hsz.1).mono ?_
      rintro e w4 ⟨rfl, hb4⟩
      have hr4 : Hid (w4.heap[wr.heap.size]? = some (.cells #[.string pp, .bool pr, .int .i64 (m2 : Int), .string pd] 38 (0, 0))) := (hb4.block _ (row_ltT HRA.out)).trans HRA.out
      have HBL4 : Hid (BldK w1.heap.size w1.heap.size (acc) w4) := BldK.call HBLA.out hb4
      have HB4 : Hid (Below w.heap.size w w4) := blNd HBA.out hb4 HBA.out.size
      have hws4 : w1.heap.size ≤ w4.heap.size := by have := hb4.size; (try simp at this); omega
      clear hb4
      go_wp2_with fail
      refine (bldk_add w1.heap.size w1.heap.size (acc) _ _ HBL4.out (by (try simp only [ByteArray.size_append]); omega) hws4).mono ?_
      rintro e w5 ⟨rfl, hbl5, hb5, hk5⟩
      have hr5 : Hid (w5.heap[wr.heap.size]? = some (.cells #[.string pp, .bool pr, .int .i64 (m2 : Int), .string pd] 38 (0, 0))) := hk5 _ _ _ _ hr4.out (by omega) (by decide)
      have HBL5 : Hid (BldK w1.heap.size w1.heap.size ((acc) ++ putTextOut pp) w5) := hbl5
      have HB5 : Hid (Below w.heap.size w w5) := HB4.out.trans (hb5.mono HB1.out.size)
      have hws5 : w1.heap.size ≤ w5.heap.size := by have := hb5.size; omega
      have b50 : w5.cell? ⟨wr.heap.size, 0, none⟩ = some (.string pp) := cell_of_row _ _ 0 _ _ _ hr5.out
      have b51 : w5.cell? ⟨wr.heap.size, 1, none⟩ = some (.bool pr) := cell_of_row _ _ 1 _ _ _ hr5.out
      have b52 : w5.cell? ⟨wr.heap.size, 2, none⟩ = some (.int .i64 (m2 : Int)) := cell_of_row _ _ 2 _ _ _ hr5.out
      have b53 : w5.cell? ⟨wr.heap.size, 3, none⟩ = some (.string pd) := cell_of_row _ _ 3 _ _ _ hr5.out
      clear x0 x1 x2 x3 hbl5 hb5 hk5 hr4 HBL4 HB4
      cases pr with
      | true =>
        have hN := HY.out rfl
        have HNN := hidT hN
        obtain ⟨k3, hk3⟩ : ∃ k3, k3 = k2 + 1 := ⟨_, rfl⟩
        have hw3 : IntKind.i64.wrap ((k2 : Int) + 1) = (k3 : Int) := by rw [IntKind.wrap_i64]; omega
        have hw4 : IntKind.u64.wrap (k3 : Int) = (k3 : Int) := by rw [IntKind.wrap_u64]; omega
        have hpk := pnB_size (n := k3) (by omega)
        have HK3 : Hid (k3 = k2 + 1) := hk3
        clear hN HY HN hk3
        go_wp2_with fail
        refine (HP.out k3 _ (by have := HK3.out; omega)).mono ?_
        rintro e w6 ⟨rfl, hb6⟩
        have hr6 : Hid (w6.heap[wr.heap.size]? = some (.cells #[.string pp, .bool true, .int .i64 (m2 : Int), .string pd] 38 (0, 0))) := (hb6.block _ (row_ltT hr5.out)).trans hr5.out
        have HBL6 : Hid (BldK w1.heap.size w1.heap.size (acc ++ putTextOut pp) w6) := BldK.call HBL5.out hb6
        have HB6 : Hid (Below w.heap.size w w6) := blNd HB5.out hb6 HB5.out.size
        have hws6 : w1.heap.size ≤ w6.heap.size := by have := hb6.size; (try simp at this); omega
        clear hb6
        go_wp2_with fail
        refine (bldk_add w1.heap.size w1.heap.size (acc ++ putTextOut pp) _ _ HBL6.out (by (try simp only [ByteArray.size_append]); omega) hws6).mono ?_
        rintro e w7 ⟨rfl, hbl7, hb7, hk7⟩
        have hr7 : Hid (w7.heap[wr.heap.size]? = some (.cells #[.string pp, .bool true, .int .i64 (m2 : Int), .string pd] 38 (0, 0))) := hk7 _ _ _ _ hr6.out (by omega) (by decide)
        have HBL7 : Hid (BldK w1.heap.size w1.heap.size ((acc ++ putTextOut pp) ++ pnB k3) w7) := hbl7
        have HB7 : Hid (Below w.heap.size w w7) := HB6.out.trans (hb7.mono HB1.out.size)
        have hws7 : w1.heap.size ≤ w7.heap.size := by have := hb7.size; omega
        clear hbl7 hb7 hk7 hr6 HBL6 HB6
        have HBLE : Hid (BldK w1.heap.size w1.heap.size (txB F n (i + 1)) w7) := by rw [HNN.out, ← HK3.out]; exact HBL7
        clear HBL7
        go_wp2_with fail
        go_roundw
        case rel => exact ⟨i + 1, by omega, by go_num, hws7, HBLE, HB7⟩
        case measure => simp [trI]; omega
      | false =>
        have hN := HN.out rfl
        have HNN := hidT hN
        have hw4 : IntKind.u64.wrap (k2 : Int) = (k2 : Int) := by rw [IntKind.wrap_u64]; omega
        have hpk := pnB_size (n := k2) (by omega)
        clear hN HY HN
        go_wp2_with fail
        refine (HP.out k2 _ (by omega)).mono ?_
        rintro e w6 ⟨rfl, hb6⟩
        have hr6 : Hid (w6.heap[wr.heap.size]? = some (.cells #[.string pp, .bool false, .int .i64 (m2 : Int), .string pd] 38 (0, 0))) := (hb6.block _ (row_ltT hr5.out)).trans hr5.out
        have HBL6 : Hid (BldK w1.heap.size w1.heap.size (acc ++ putTextOut pp) w6) := BldK.call HBL5.out hb6
        have HB6 : Hid (Below w.heap.size w w6) := blNd HB5.out hb6 HB5.out.size
        have hws6 : w1.heap.size ≤ w6.heap.size := by have := hb6.size; (try simp at this); omega
        clear hb6
        go_wp2_with fail
        refine (bldk_add w1.heap.size w1.heap.size (acc ++ putTextOut pp) _ _ HBL6.out (by (try simp only [ByteArray.size_append]); omega) hws6).mono ?_
        rintro e w7 ⟨rfl, hbl7, hb7, hk7⟩
        have hr7 : Hid (w7.heap[wr.heap.size]? = some (.cells #[.string pp, .bool false, .int .i64 (m2 : Int), .string pd] 38 (0, 0))) := hk7 _ _ _ _ hr6.out (by omega) (by decide)
        have HBL7 : Hid (BldK w1.heap.size w1.heap.size ((acc ++ putTextOut pp) ++ pnB k2) w7) := hbl7
        have HB7 : Hid (Below w.heap.size w w7) := HB6.out.trans (hb7.mono HB1.out.size)
        have hws7 : w1.heap.size ≤ w7.heap.size := by have := hb7.size; omega
        have b70 : w7.cell? ⟨wr.heap.size, 0, none⟩ = some (.string pp) := cell_of_row _ _ 0 _ _ _ hr7.out
        have b71 : w7.cell? ⟨wr.heap.size, 1, none⟩ = some (.bool false) := cell_of_row _ _ 1 _ _ _ hr7.out
        have b72 : w7.cell? ⟨wr.heap.size, 2, none⟩ = some (.int .i64 (m2 : Int)) := cell_of_row _ _ 2 _ _ _ hr7.out
        have b73 : w7.cell? ⟨wr.heap.size, 3, none⟩ = some (.string pd) := cell_of_row _ _ 3 _ _ _ hr7.out
        clear hbl7 hb7 hk7 hr6 HBL6 HB6
        go_wp2_with fail
        refine (HPT.out pd _ hsz.2).mono ?_
        rintro e w8 ⟨rfl, hb8⟩
        have hr8 : Hid (w8.heap[wr.heap.size]? = some (.cells #[.string pp, .bool false, .int .i64 (m2 : Int), .string pd] 38 (0, 0))) := (hb8.block _ (row_ltT hr7.out)).trans hr7.out
        have HBL8 : Hid (BldK w1.heap.size w1.heap.size ((acc ++ putTextOut pp) ++ pnB k2) w8) := BldK.call HBL7.out hb8
        have HB8 : Hid (Below w.heap.size w w8) := blNd HB7.out hb8 HB7.out.size
        have hws8 : w1.heap.size ≤ w8.heap.size := by have := hb8.size; (try simp at this); omega
        clear hb8
        go_wp2_with fail
        refine (bldk_add w1.heap.size w1.heap.size ((acc ++ putTextOut pp) ++ pnB k2) _ _ HBL8.out (by (try simp only [ByteArray.size_append]); omega) hws8).mono ?_
        rintro e w9 ⟨rfl, hbl9, hb9, hk9⟩
        have hr9 : Hid (w9.heap[wr.heap.size]? = some (.cells #[.string pp, .bool false, .int .i64 (m2 : Int), .string pd] 38 (0, 0))) := hk9 _ _ _ _ hr8.out (by omega) (by decide)
        have HBL9 : Hid (BldK w1.heap.size w1.heap.size (((acc ++ putTextOut pp) ++ pnB k2) ++ putTextOut pd) w9) := hbl9
        have HB9 : Hid (Below w.heap.size w w9) := HB8.out.trans (hb9.mono HB1.out.size)
        have hws9 : w1.heap.size ≤ w9.heap.size := by have := hb9.size; omega
        clear hbl9 hb9 hk9 hr8 HBL8 HB8
        have HBLE : Hid (BldK w1.heap.size w1.heap.size (txB F n (i + 1)) w9) := by rw [HNN.out]; exact HBL9
        clear HBL9
        go_wp2_with fail
        go_roundw
        case rel => exact ⟨i + 1, by omega, by go_num, hws9, HBLE, HB9⟩
        case measure => simp [trI]; omega
    · obtain rfl : i = n := by omega
      go_wp2_with fail
      refine (bldk_tell w1.heap.size w1.heap.size (txB F i i) _ HBL.out hws).mono ?_
      rintro e w3 ⟨rfl, hb3⟩
      have HB3 : Hid (Below w.heap.size w w3) := HB.out.trans (hb3.mono HB1.out.size)
      clear hb3
      go_wp2_with fail
      go_ret
      exact ⟨rfl, HB3.out⟩
set_option maxRecDepth 100000 in
theorem tx_no (v : Value) (n : Nat) (F : Nat → NdI) (w : World) (hF : NdLe F n) (hm : MxL w) (hok : ¬ ndR F n) (hr : NdArg w v n F) :
    Calls Tryd.prog 16 #[v] w fun e w' => e = .returned (.string ⟨#[]⟩) ∧ Below w.heap.size w w' := by
  have HK : Hid (Calls Tryd.prog 19 #[v] w fun e w' => e = .returned (.bool false) ∧ Below w.heap.size w w') := by
    have h2 := treeOk_any v n F w hF hm hr
    rw [ndB_no hok] at h2
    exact h2
  obtain ⟨a, c, rfl, _⟩ := hr
  clear hok hF hm
  go_enter Tryd.func16, Tryd.ntmps16
  go_wp2_with fail
  refine HK.out.mono ?_
  rintro e w1 ⟨rfl, hb1⟩
  go_wp2_with fail
  go_ret
  exact ⟨rfl, hb1⟩
theorem tx_any (v : Value) (n : Nat) (F : Nat → NdI) (w : World) (hF : NdLe F n) (hm : MxL w) (hr : NdArg w v n F) :
    Calls Tryd.prog 16 #[v] w fun e w' => e = .returned (.string (txV F n)) ∧ Below w.heap.size w w' := by
  by_cases h : ndR F n
  · rw [txV_yes h]
    obtain ⟨a, c, rfl, hr⟩ := hr
    exact tx_yes a c n F w hF hm h hr
  · rw [txV_no h]
    exact tx_no v n F w hF hm h hr
end Go.Proofs.YtadimakdjndcdaeDoor
