/-
  Count: the code's.
-/
import Derived.Test.YtnkahdidelhdaacGreatDoorCntMath
import Derived.Test.YtnkahdidelhdaacGreatDoorShaBytes
import Derived.Test.YtnkahdidelhdaacGreatDoorEncAddS
namespace Go.Proofs.YtnkahdidelhdaacGreatDoor
open Go.RowKit
set_option linter.unusedVariables false

theorem DatW.conv (w : World) (s : ByteArray) : DatW w.heap.size s.size (bsOf s) (Lib.bytesWorld w 5 s) := by
  have hge : s.size ≤ grownCap w s.size 0 5 := grownCap_ge w s.size 0 5
  have hs : (Lib.bytesCells w 5 s).size = grownCap w s.size 0 5 := by
    unfold Lib.bytesCells
    rw [Array.size_append, Array.size_map, Array.size_replicate]
    have : s.data.size = s.size := rfl
    omega
  refine ⟨by rw [Lib.bytesWorld_size]; omega, fun j hj => ?_, fun j hj => ?_⟩
  · have hj' : j < s.data.toList.length := by rw [← Lib.size_eq]; exact hj
    rw [Lib.bytesWorld_cell w 5 s j hj]
    rfl
  · simp [World.frozen?, Lib.bytesWorld_at_new, hs]
    omega
/-- what Count has made: the block, the mask, the bytes -/
structure NW (w3 : World) (C M : Array Value) (size : Nat) (F : Nat → Nat) (wr : World) : Prop where
  below : Below w3.heap.size w3 wr
  rb : wr.heap[w3.heap.size]? = some (.cells C 105 (0, 0))
  rm : wr.heap[w3.heap.size + 1]? = some (.cells M 105 (0, 0))
  dat : DatW (w3.heap.size + 1 + 1) size F wr
theorem NW.lt {w3 wr : World} {C M : Array Value} {size : Nat} {F : Nat → Nat} (h : NW w3 C M size F wr) : w3.heap.size + 1 + 1 < wr.heap.size := h.dat.lt
theorem NW.call {w3 wr w' : World} {C M : Array Value} {size : Nat} {F : Nat → Nat} (h : NW w3 C M size F wr) (hb : Below wr.heap.size wr w') : NW w3 C M size F w' :=
  ⟨bl_trans h.below hb h.below.size, (hb.block _ (by have := h.lt; omega)).trans h.rb, (hb.block _ (by have := h.lt; omega)).trans h.rm, h.dat.below hb h.lt⟩
theorem below_row (wr : World) (g B : Nat) (D : Array Value) (h : B ≤ g) : Below B wr (wr.setRow g D) := ⟨rfl, rfl, rfl, by simp, fun k hk => setRow_other _ _ _ _ (by omega)⟩
theorem DatW.row {g size k : Nat} {F : Nat → Nat} {wr : World} (h : DatW g size F wr) (D : Array Value) (hk : k ≠ g) : DatW g size F (wr.setRow k D) := by
  have hg : (wr.setRow k D).heap[g]? = wr.heap[g]? := setRow_other _ _ _ _ (by omega)
  exact ⟨by simpa using h.lt, fun j hj => (World.cell?_of_block (a := ⟨g, j, none⟩) hg).trans (h.word j hj), fun j hj => (World.frozen?_of_block (a := ⟨g, j, none⟩) hg).trans (h.fz j hj)⟩
theorem NW.mask {w3 wr : World} {C M : Array Value} {size : Nat} {F : Nat → Nat} (h : NW w3 C M size F wr) (D : Array Value) : NW w3 C D size F (wr.setRow (w3.heap.size + 1) D) :=
  ⟨h.below.trans (below_row _ _ _ _ (by omega)), by rw [setRow_other _ _ _ _ (by omega)]; exact h.rb, setRow_heap wr (w3.heap.size + 1) M D 105 (0, 0) h.rm, h.dat.row D (by omega)⟩
theorem DatW.cellset {g size k t : Nat} {F : Nat → Nat} {wr : World} (h : DatW g size F wr) (v : Value) (hk : k ≠ g) : DatW g size F (wr.setCell ⟨k, t, none⟩ v) := by
  have hg : (wr.setCell ⟨k, t, none⟩ v).heap[g]? = wr.heap[g]? := heap_setCell_other wr ⟨k, t, none⟩ _ v (by show _ ≠ k; omega)
  exact ⟨by simpa using h.lt, fun j hj => (World.cell?_of_block (a := ⟨g, j, none⟩) hg).trans (h.word j hj), fun j hj => (World.frozen?_of_block (a := ⟨g, j, none⟩) hg).trans (h.fz j hj)⟩
theorem NW.count {w3 wr : World} {C M : Array Value} {size : Nat} {F : Nat → Nat} (h : NW w3 C M size F wr) (t : Nat) (v : Value) : NW w3 (C.setIfInBounds t v) M size F (wr.setCell ⟨w3.heap.size, t, none⟩ v) :=
  ⟨h.below.setCell (p := ⟨w3.heap.size, t, none⟩) (Nat.le_refl _) v, heap_setCell_same wr _ t _ _ _ h.rb,
    by rw [heap_setCell_other wr ⟨w3.heap.size, t, none⟩ _ v (by show _ ≠ w3.heap.size; omega)]; exact h.rm, h.dat.cellset v (by omega)⟩
theorem NW.byte {w3 wr : World} {C M : Array Value} {size n : Nat} {nonce : ByteArray} {W d : Nat → Nat} (h : NW w3 C M size (partF nonce W d n) wr) (hn : n < size) :
    NW w3 C M size (partF nonce W d (n + 1)) (wr.setCell ⟨w3.heap.size + 1 + 1, n, none⟩ (.int .u8 (cntF nonce W d n : Nat))) :=
  ⟨h.below.setCell (p := ⟨w3.heap.size + 1 + 1, n, none⟩) (by show _ ≤ w3.heap.size + 1 + 1; omega) _,
    by rw [heap_setCell_other wr ⟨w3.heap.size + 1 + 1, n, none⟩ _ _ (by show _ ≠ w3.heap.size + 1 + 1; omega)]; exact h.rb,
    by rw [heap_setCell_other wr ⟨w3.heap.size + 1 + 1, n, none⟩ _ _ (by show _ ≠ w3.heap.size + 1 + 1; omega)]; exact h.rm, part_set h.dat hn⟩
theorem NW.drew {w3 wr : World} {C M : Array Value} {size : Nat} {F : Nat → Nat} (h : NW w3 C M size F wr) : NW w3 C M size F wr.drew := ⟨h.below.drew, h.rb, h.rm, h.dat.lt, h.dat.word, h.dat.fz⟩
theorem ctr_zero (nonce : ByteArray) : nonce ++ ⟨#[0, 0, 0, 0]⟩ = ctrB nonce 0 := rfl

set_option linter.unusedSimpArgs false in
set_option maxRecDepth 100000 in
set_option maxHeartbeats 2000000 in
theorem count_any (k nonce d : ByteArray) (w : World) (hk : k.size = 32) (hn : nonce.size = 12) (hd : d.size ≤ 60000) :
    Calls Tryz.prog 51 #[.string k, .string nonce, .string d] w fun e w' => e = .returned (.tuple #[.string (cntB nonce (kw (bsOf k)) d), .bool true]) ∧ Below w.heap.size w w' := by
  have HK : Hid (k.size = 32 ∧ nonce.size = 12 ∧ d.size ≤ 60000) := ⟨hk, hn, hd⟩
  have h1 : (k.size : Int) = 32 := by omega
  have h2 : (nonce.size : Int) = 12 := by omega
  have h3 : (d.size : Int) ≤ 60000 := by omega
  clear hk hn hd
  obtain ⟨Z, hZ⟩ : ∃ Z : Array Value, Z = cols fun _ => 0 := ⟨_, rfl⟩
  have hz := col_zero
  rw [← hZ] at hz
  have HZS : Hid (Z.size = 4) := by show Z.size = 4; rw [hZ]; rfl
  have hZc : (Value.agg Z).cells = Z := by rw [hZ]; kernel_rfl
  clear hZ
  have HI : Hid _ := col_info
  have hcv : ∀ W, (convert 9 22 (.string d)).run Tryz.prog W = .ok (.slice (some ⟨W.heap.size, 0, none⟩) d.size (grownCap W d.size 0 5)) (Lib.bytesWorld W 5 d) := fun W => Lib.run_convert_string_bytes W 9 22 5 d Tryz.underlying9 Tryz.underlying22 Tryz.underlying5
  have HCO : Hid (∀ W, Calls Tryz.prog 62 #[.string (nonce ++ ⟨#[0, 0, 0, 0]⟩)] W fun e w' => e = .returned (.agg (cols (cl (ctrS nonce 0)))) ∧ Below W.heap.size W w') := fun W => by
    rw [ctr_zero]; exact columns_any _ W (by rw [ctrB_size HK.out.2.1]; exact Nat.le_refl 16)
  have HWL : Hid (∀ j, j < 60 → kw (bsOf k) j < 4294967296) := kw_lt (bsOf_lt k)
  have HWI : Hid (∀ W, Calls Tryz.prog 61 #[.string k] W fun e w' => ∃ b, e = .returned (.pointer (some ⟨b, 0, none⟩)) ∧ CW W b (kw (bsOf k)) 60 w') := fun W => with_any k W HK.out.1
  generalize kw (bsOf k) = KW at HWL HWI ⊢
  obtain ⟨C, hC⟩ : ∃ C : Nat → Array Value, C = fun c => cols (cl (ctrS nonce c)) := ⟨_, rfl⟩
  have hC0 : cols (cl (ctrS nonce 0)) = C 0 := by rw [hC]
  have HCN : Hid (∀ c, c < 4000 → (C c).setIfInBounds 3 (.int .u32 ((c + 1 : Nat) : Int)) = C (c + 1) ∧ (C c)[3]? = some (.int .u32 (c : Int))) := fun c hc => by
    rw [hC]; refine ⟨cols_next HK.out.2.1 (by omega), ?_⟩
    show (cols (cl (ctrS nonce c)))[3]? = _
    rw [cols_at _ (by omega), cl_count HK.out.2.1 (by omega)]
  have HCI : Hid (∀ c, Option.map (·.size) (Tryz.prog.info? 105) = some (C c).size ∧ Z.size = (C c).size ∧ (C c).all (·.oneCell') = true) := fun c => by
    rw [hC, HZS.out]; exact ⟨HI.out, rfl, cols_one _⟩
  rw [hC0] at HCO
  have HEN : Hid (∀ b W c, KC b KW W → Calls Tryz.prog 63 #[.pointer (some ⟨b, 0, none⟩), .agg (C c)] W fun e w' => e = .returned (.agg (cols (cl (stB (ctrS nonce c) KW 14)))) ∧ Below W.heap.size W w') := fun b W c h => by
    rw [hC]; exact enc_any b KW (ctrS nonce c) W (ctrS_lt nonce c) h HWL.out
  clear hC hC0
  go_enter Tryz.func51, Tryz.ntmps51
  go_wp2_with fail
  refine (HWI.out _).mono ?_
  rintro e w1 ⟨b, rfl, hcw⟩
  have HCW : Hid _ := hcw
  clear hcw
  go_wp2_with fail
  refine (HCO.out _).mono ?_
  rintro e w3 ⟨rfl, hb3⟩
  have HB3 : Hid (Below w.heap.size w w3 ∧ KC b KW w3) := ⟨bl_trans HCW.out.below hb3 HCW.out.below.size, HCW.out.kc.below hb3 HCW.out.lt⟩
  have HC0 : Hid _ := HCI.out 0
  clear hb3 HCW HWI HCO
  generalize hD0 : C 0 = D0 at HC0 ⊢
  have HD0 : Hid (C 0 = D0) := hD0
  clear hD0
  go_wp2_with (refine wpList_store_row rfl 105 _ (.tmp 30) rfl w3.heap.size D0 rfl rfl 105 Z (by exact heap_alloc_new w3 _) HC0.out.1 HC0.out.2.1 HC0.out.2.2 ?_)
  have hrow := setRow_heap (w3.alloc (.cells Z 105)) w3.heap.size Z D0 105 (0, 0) (heap_alloc_new w3 _)
  have hs4 : (((w3.alloc (.cells Z 105)).setRow w3.heap.size D0).alloc (.cells Z 105)).heap.size = w3.heap.size + 1 + 1 := by simp
  have hs3 : ((w3.alloc (.cells Z 105)).setRow w3.heap.size D0).heap.size = w3.heap.size + 1 := by simp
  have HNW : Hid (NW w3 (C 0) Z d.size (partF nonce KW (bsOf d) 0) (Lib.bytesWorld (((w3.alloc (.cells Z 105)).setRow w3.heap.size D0).alloc (.cells Z 105)) 5 d)) := by
    have hdw := DatW.conv (((w3.alloc (.cells Z 105)).setRow w3.heap.size D0).alloc (.cells Z 105)) d
    rw [hs4] at hdw
    rw [HD0.out]
    refine ⟨?_, ?_, ?_, hdw.congr fun j _ => by unfold partF; rw [if_neg (by omega)]⟩
    · exact ((((Below.refl w3.heap.size w3).alloc (Nat.le_refl _) _).trans (below_row _ _ _ _ (Nat.le_refl _))).alloc (by rw [hs3]; omega) _).trans (below_conv _ d (by rw [hs4]; omega))
    · rw [Lib.bytesWorld_at_old _ 5 d _ (by rw [hs4]; omega), (heap_al _ _).2 _ (by rw [hs3]; omega)]; exact hrow
    · rw [Lib.bytesWorld_at_old _ 5 d _ (by rw [hs4]; omega), ← hs3, (heap_al _ _).1]
  clear hrow hs4 hs3 hz hZc hcv HI HC0 HD0
  generalize Lib.bytesWorld (((w3.alloc (.cells Z 105)).setRow w3.heap.size D0).alloc (.cells Z 105)) 5 d = W5 at HNW ⊢
  generalize grownCap (((w3.alloc (.cells Z 105)).setRow w3.heap.size D0).alloc (.cells Z 105)) d.size 0 5 = cap
  have HZI : Hid (Z.size = 4) := HZS.out
  go_loopw [35] (fun c wr => ∃ (n : Nat) (M : Array Value), n ≤ d.size ∧ c = .int .i64 (n : Int) ∧ Hid (NW w3 (C ((n + 15) / 16)) M d.size (partF nonce KW (bsOf d) n) wr ∧ M.size = 4 ∧ (n % 16 ≠ 0 → M = cols (cl (stB (ctrS nonce ((n - 1) / 16)) KW 14)))))
    (fun c _ => d.size - (cipIntOf c).toNat)
  case atStart => exact ⟨0, Z, by omega, rfl, HNW.out, HZI.out, fun h => absurd rfl h⟩
  case round =>
    obtain ⟨n, M, hn, rfl, HQ⟩ := hrel
    clear HNW
    by_cases hlt : n < d.size
    · have hn6 : n < 60000 := by have := HK.out.2.2; omega
      by_cases h16 : n % 16 = 0
      · have he : ((n : Int) % 16 == 0) = true := by rw [beq_iff_eq]; omega
        have hc15 : (n + 15) / 16 = n / 16 := by omega
        have HQ1 : Hid (NW w3 (C (n / 16)) M d.size (partF nonce KW (bsOf d) n) wr) := by have := HQ.out.1; rwa [hc15] at this
        have HM4 : Hid (M.size = 4) := HQ.out.2.1
        have HKC : Hid (KC b KW wr) := HB3.out.2.below HQ1.out.below HB3.out.2.lt
        have HCA : Hid (Calls Tryz.prog 63 #[.pointer (some ⟨b, 0, none⟩), .agg (C (n / 16))] wr fun e w' => e = .returned (.agg (cols (cl (stB (ctrS nonce (n / 16)) KW 14)))) ∧ Below wr.heap.size wr w') := HEN.out b wr (n / 16) HKC.out
        have HCX : Hid _ := HCI.out (n / 16)
        have HCX2 : Hid _ := HCN.out (n / 16) (by omega)
        have HC1 : Hid (C (n / 16 + 1) = C ((n + 1 + 15) / 16)) := by rw [show (n + 1 + 15) / 16 = n / 16 + 1 by omega]; rfl
        obtain ⟨E, hE⟩ : ∃ E : Array Value, E = cols (cl (stB (ctrS nonce (n / 16)) KW 14)) := ⟨_, rfl⟩
        have HE : Hid _ := hE
        rw [← hE] at HCA
        have HEI : Hid (E.size = 4 ∧ E.all (·.oneCell') = true) := by rw [hE]; exact ⟨rfl, cols_one _⟩
        have HLD : Hid _ := HQ1.out.rb
        clear hE hc15 HQ
        have hcq : n / 16 < 4000 := by omega
        generalize hq : n / 16 = q at HQ1 HCA HCX HCX2 HC1 HE HLD hcq
        have HNQ : Hid (n / 16 = q) := hq
        clear hq
        generalize C q = D at HQ1 HCA HCX HCX2 HLD
        go_wp2_with (refine wpList_load_row rfl 105 _ rfl w3.heap.size rfl 105 D (0, 0) _ HLD.out Tryz.underlying105 rfl HCX.out.1 ?_)
        refine HCA.out.mono ?_
        rintro e w6 ⟨rfl, hb6⟩
        have HQ2 : Hid (NW w3 D M d.size (partF nonce KW (bsOf d) n) w6) := HQ1.out.call hb6
        have HQ3 : Hid (NW w3 D E d.size (partF nonce KW (bsOf d) n) (w6.setRow (w3.heap.size + 1) E)) := HQ2.out.mask E
        have HRM : Hid _ := HQ2.out.rm
        have HIE : Hid (Option.map (·.size) (Tryz.prog.info? 105) = some E.size ∧ M.size = E.size) := by
          have := HCX.out.1
          rw [← HCX.out.2.1, HZI.out] at this
          exact ⟨by rw [HEI.out.1]; exact this, by rw [HM4.out, HEI.out.1]⟩
        have c3 := (cell_of_row (w6.setRow (w3.heap.size + 1) E) _ 3 _ _ _ HQ3.out.rb).trans HCX2.out.2
        have f3 := frozen_of_row (w6.setRow (w3.heap.size + 1) E) _ 3 _ _ HQ3.out.rb
        have HQ4 : Hid (NW w3 (C ((n + 1 + 15) / 16)) E d.size (partF nonce KW (bsOf d) n) ((w6.setRow (w3.heap.size + 1) E).setCell ⟨w3.heap.size, 3, none⟩ (.int .u32 ((q : Int) + 1)))) := by
          have := HQ3.out.count 3 (.int .u32 ((q + 1 : Nat) : Int))
          rw [HCX2.out.1, HC1.out] at this
          rwa [show ((q + 1 : Nat) : Int) = (q : Int) + 1 by omega] at this
        clear hb6 HQ1 HQ2 HKC HCA
        go_wp2_with (refine wpList_store_row rfl 105 _ (.tmp 43) rfl (w3.heap.size + 1) E rfl rfl 105 M HRM.out HIE.out.1 HIE.out.2 HEI.out.2 ?_)
        generalize (w6.setRow (w3.heap.size + 1) E).setCell ⟨w3.heap.size, 3, none⟩ (.int .u32 ((q : Int) + 1)) = wq at HQ4 ⊢
        have HQW : Hid _ := HQ4.out
        have HEW : Hid (E = cols (cl (stB (ctrS nonce (n / 16)) KW 14))) := by rw [HNQ.out]; exact HE.out
        clear HQ4 HE HNQ HQ3 c3 f3 HRM HIE HEI HLD HCX HCX2 HC1 hcq he h16
        have hm16 : n % 16 < 16 := by omega
        have cd := HQW.out.dat.word n hlt
        rw [show partF nonce KW (bsOf d) n n = bsOf d n by unfold partF; rw [if_neg (by omega)]] at cd
        have fd := HQW.out.dat.fz n hlt
        have hx := bsOf_lt d n
        have hy := stB_lt (w := KW) (ctrS_lt nonce (n / 16)) 14 (n % 16)
        have hxo : bits .xor .u8 (bsOf d n : Int) (stB (ctrS nonce (n / 16)) KW 14 (n % 16) : Nat) = ((cntF nonce KW (bsOf d) n : Nat) : Int) := u8_xor_nat _ _ hx hy
        have HBY : Hid (Calls Tryz.prog 64 #[.pointer (some ⟨w3.heap.size + 1, 0, none⟩), .int .i64 ((n % 16 : Nat) : Int)] wq.drew fun e w' => e = .returned (.int .u8 (stB (ctrS nonce (n / 16)) KW 14 (n % 16) : Nat)) ∧ w' = wq.drew) :=
          byte_any (w3.heap.size + 1) (stB (ctrS nonce (n / 16)) KW 14) (n % 16) wq.drew (stB_lt (ctrS_lt nonce _) 14) hm16 ((cell_of_row wq.drew _ (n % 16 / 4) _ _ _ HQW.out.drew.rm).trans (by rw [HEW.out]; exact cols_at _ (by omega)))
        have HN : Hid (NW w3 (C ((n + 1 + 15) / 16)) E d.size (partF nonce KW (bsOf d) (n + 1)) (wq.drew.setCell ⟨w3.heap.size + 1 + 1, n, none⟩ (.int .u8 (cntF nonce KW (bsOf d) n : Nat)))) := HQW.out.drew.byte hlt
        have HNE : Hid (E.size = 4 ∧ ((n + 1) % 16 ≠ 0 → E = cols (cl (stB (ctrS nonce ((n + 1 - 1) / 16)) KW 14)))) := ⟨by rw [HEW.out]; rfl, fun _ => HEW.out⟩
        have em : (n : Int) % 16 = ((n % 16 : Nat) : Int) := by omega
        clear HQW HEW
        generalize cntF nonce KW (bsOf d) n = z at hxo HN
        generalize stB (ctrS nonce (n / 16)) KW 14 (n % 16) = y at hy hxo HBY
        generalize bsOf d n = x at cd hx hxo
        generalize n % 16 = m at em hm16 HBY
        refine wp_region_any (by kernel_rfl) ?_
        change wpAny _ _ _ _ _ _ _ (World.drew _)
        refine wpAny_take (i := 0) (v := .slice (some ⟨w3.heap.size + 1 + 1, 0, none⟩) d.size cap) rfl (by kernel_rfl) (by kernel_rfl) (by kernel_rfl) (fun _ _ _ h => h) (Or.inl ⟨by rfl, by intro w; go_simp⟩) ?_
        (try simp only [List.getElem_toArray, List.getElem_cons_succ, List.getElem_cons_zero, Act.put, List.setIfInBounds_toArray, List.set_cons_zero, List.set_cons_succ])
        refine wpAny_take (i := 1) (v := .int .i64 ((n : Int))) rfl (by kernel_rfl) (by kernel_rfl) (by kernel_rfl) (fun _ _ _ h => h) (Or.inl ⟨by rfl, by intro w; go_simp⟩) ?_
        (try simp only [List.getElem_toArray, List.getElem_cons_succ, List.getElem_cons_zero, Act.put, List.setIfInBounds_toArray, List.set_cons_zero, List.set_cons_succ])
        refine wpAny_take (i := 2) (v := .pointer (some ⟨w3.heap.size + 1 + 1, n, none⟩)) rfl (by kernel_rfl) (by kernel_rfl) (by kernel_rfl) (fun _ _ _ h => h) (Or.inl ⟨by rfl, by intro w; go_simp <;> (first | omega | (rw [IntKind.wrap_i64]; omega) | (rw [Int.tmod_eq_emod_of_nonneg (by omega)]; omega))⟩) ?_
        (try simp only [List.getElem_toArray, List.getElem_cons_succ, List.getElem_cons_zero, Act.put, List.setIfInBounds_toArray, List.set_cons_zero, List.set_cons_succ])
        refine wpAny_take (i := 4) (v := .int .i64 ((n : Int))) rfl (by kernel_rfl) (by kernel_rfl) (by kernel_rfl) (fun _ _ _ h => h) (Or.inl ⟨by rfl, by intro w; go_simp⟩) ?_
        (try simp only [List.getElem_toArray, List.getElem_cons_succ, List.getElem_cons_zero, Act.put, List.setIfInBounds_toArray, List.set_cons_zero, List.set_cons_succ])
        refine wpAny_take (i := 5) (v := .int .i64 ((m : Int))) rfl (by kernel_rfl) (by kernel_rfl) (by kernel_rfl) (fun _ _ _ h => h) (Or.inl ⟨by rfl, by intro w; go_simp <;> (first | omega | (rw [IntKind.wrap_i64]; omega) | (rw [Int.tmod_eq_emod_of_nonneg (by omega)]; omega))⟩) ?_
        (try simp only [List.getElem_toArray, List.getElem_cons_succ, List.getElem_cons_zero, Act.put, List.setIfInBounds_toArray, List.set_cons_zero, List.set_cons_succ])
        refine wpAny_ready (rs := [3, 6]) (by kernel_rfl) (by simp) ?_
        refine AllReady.cons rfl (fun K hK => ?_) (AllReady.cons rfl (fun K hK => ?_) AllReady.nil)
        · rw [if_pos (by rfl)]
          go_simp
          refine hK _ _ ?_
          clear hK K
          (try simp only [List.getElem_toArray, List.getElem_cons_succ, List.getElem_cons_zero, Act.put, List.setIfInBounds_toArray, List.set_cons_zero, List.set_cons_succ])
          refine wpAny_ready (rs := [6]) (by kernel_rfl) (by simp) ?_
          refine AllReady.cons rfl (fun K hK => ?_) AllReady.nil
          rw [if_pos (by rfl)]
          go_simp
          refine HBY.out.mono ?_
          rintro e w' ⟨rfl, hw⟩
          subst w'
          refine hK _ _ ?_
          clear hK K
          (try simp only [List.getElem_toArray, List.getElem_cons_succ, List.getElem_cons_zero, Act.put, List.setIfInBounds_toArray, List.set_cons_zero, List.set_cons_succ])
          refine wpAny_take (i := 7) (v := .int .u8 (z : Int)) rfl (by kernel_rfl) (by kernel_rfl) (by kernel_rfl) (fun _ _ _ h => h) (Or.inl ⟨by rfl, by intro w; go_simp⟩) ?_
          (try simp only [List.getElem_toArray, List.getElem_cons_succ, List.getElem_cons_zero, Act.put, List.setIfInBounds_toArray, List.set_cons_zero, List.set_cons_succ])
          refine wpAny_take (i := 8) (v := .pointer (some ⟨w3.heap.size + 1 + 1, n, none⟩)) rfl (by kernel_rfl) (by kernel_rfl) (by kernel_rfl) (fun _ _ _ h => h) (Or.inl ⟨by rfl, by intro w; go_simp <;> (first | omega | (rw [IntKind.wrap_i64]; omega) | (rw [Int.tmod_eq_emod_of_nonneg (by omega)]; omega))⟩) ?_
          (try simp only [List.getElem_toArray, List.getElem_cons_succ, List.getElem_cons_zero, Act.put, List.setIfInBounds_toArray, List.set_cons_zero, List.set_cons_succ])
          refine wpAny_ready (rs := [9]) (by kernel_rfl) (by simp) ?_
          refine AllReady.cons rfl (fun K hK => ?_) AllReady.nil
          rw [if_pos (by rfl)]
          go_simp
          refine hK _ _ ?_
          clear hK K
          (try simp only [List.getElem_toArray, List.getElem_cons_succ, List.getElem_cons_zero, Act.put, List.setIfInBounds_toArray, List.set_cons_zero, List.set_cons_succ])
          refine wpAny_done (by kernel_rfl) ?_ _
          go_wp2_with fail
          go_roundw
          case rel =>
            first
              | exact ⟨n + 1, E, by omega, by go_num, HN.out, HNE.out.1, HNE.out.2⟩
              | (repeat apply Exists.intro
                 exact ⟨⟨n + 1, E, by omega, by go_num, HN.out, HNE.out.1, HNE.out.2⟩, rfl⟩)
          case measure => simp [cipIntOf]; omega
        · rw [if_pos (by rfl)]
          go_simp
          refine HBY.out.mono ?_
          rintro e w' ⟨rfl, hw⟩
          subst w'
          refine hK _ _ ?_
          clear hK K
          (try simp only [List.getElem_toArray, List.getElem_cons_succ, List.getElem_cons_zero, Act.put, List.setIfInBounds_toArray, List.set_cons_zero, List.set_cons_succ])
          refine wpAny_ready (rs := [3]) (by kernel_rfl) (by simp) ?_
          refine AllReady.cons rfl (fun K hK => ?_) AllReady.nil
          rw [if_pos (by rfl)]
          go_simp
          refine hK _ _ ?_
          clear hK K
          (try simp only [List.getElem_toArray, List.getElem_cons_succ, List.getElem_cons_zero, Act.put, List.setIfInBounds_toArray, List.set_cons_zero, List.set_cons_succ])
          refine wpAny_take (i := 7) (v := .int .u8 (z : Int)) rfl (by kernel_rfl) (by kernel_rfl) (by kernel_rfl) (fun _ _ _ h => h) (Or.inl ⟨by rfl, by intro w; go_simp⟩) ?_
          (try simp only [List.getElem_toArray, List.getElem_cons_succ, List.getElem_cons_zero, Act.put, List.setIfInBounds_toArray, List.set_cons_zero, List.set_cons_succ])
          refine wpAny_take (i := 8) (v := .pointer (some ⟨w3.heap.size + 1 + 1, n, none⟩)) rfl (by kernel_rfl) (by kernel_rfl) (by kernel_rfl) (fun _ _ _ h => h) (Or.inl ⟨by rfl, by intro w; go_simp <;> (first | omega | (rw [IntKind.wrap_i64]; omega) | (rw [Int.tmod_eq_emod_of_nonneg (by omega)]; omega))⟩) ?_
          (try simp only [List.getElem_toArray, List.getElem_cons_succ, List.getElem_cons_zero, Act.put, List.setIfInBounds_toArray, List.set_cons_zero, List.set_cons_succ])
          refine wpAny_ready (rs := [9]) (by kernel_rfl) (by simp) ?_
          refine AllReady.cons rfl (fun K hK => ?_) AllReady.nil
          rw [if_pos (by rfl)]
          go_simp
          refine hK _ _ ?_
          clear hK K
          (try simp only [List.getElem_toArray, List.getElem_cons_succ, List.getElem_cons_zero, Act.put, List.setIfInBounds_toArray, List.set_cons_zero, List.set_cons_succ])
          refine wpAny_done (by kernel_rfl) ?_ _
          go_wp2_with fail
          go_roundw
          case rel =>
            first
              | exact ⟨n + 1, E, by omega, by go_num, HN.out, HNE.out.1, HNE.out.2⟩
              | (repeat apply Exists.intro
                 exact ⟨⟨n + 1, E, by omega, by go_num, HN.out, HNE.out.1, HNE.out.2⟩, rfl⟩)
          case measure => simp [cipIntOf]; omega
      · have he : ((n : Int) % 16 == 0) = false := by rw [beq_eq_false_iff_ne]; omega
        have HQW : Hid (NW w3 (C ((n + 1 + 15) / 16)) M d.size (partF nonce KW (bsOf d) n) wr) := by
          have := HQ.out.1; rwa [show (n + 15) / 16 = (n + 1 + 15) / 16 by omega] at this
        have HEW : Hid (M = cols (cl (stB (ctrS nonce (n / 16)) KW 14))) := by
          have := HQ.out.2.2 h16; rwa [show (n - 1) / 16 = n / 16 by omega] at this
        clear HQ
        go_wp2_with fail
        rename World => wq
        rename Array Value => E
        have hm16 : n % 16 < 16 := by omega
        have cd := HQW.out.dat.word n hlt
        rw [show partF nonce KW (bsOf d) n n = bsOf d n by unfold partF; rw [if_neg (by omega)]] at cd
        have fd := HQW.out.dat.fz n hlt
        have hx := bsOf_lt d n
        have hy := stB_lt (w := KW) (ctrS_lt nonce (n / 16)) 14 (n % 16)
        have hxo : bits .xor .u8 (bsOf d n : Int) (stB (ctrS nonce (n / 16)) KW 14 (n % 16) : Nat) = ((cntF nonce KW (bsOf d) n : Nat) : Int) := u8_xor_nat _ _ hx hy
        have HBY : Hid (Calls Tryz.prog 64 #[.pointer (some ⟨w3.heap.size + 1, 0, none⟩), .int .i64 ((n % 16 : Nat) : Int)] wq.drew fun e w' => e = .returned (.int .u8 (stB (ctrS nonce (n / 16)) KW 14 (n % 16) : Nat)) ∧ w' = wq.drew) :=
          byte_any (w3.heap.size + 1) (stB (ctrS nonce (n / 16)) KW 14) (n % 16) wq.drew (stB_lt (ctrS_lt nonce _) 14) hm16 ((cell_of_row wq.drew _ (n % 16 / 4) _ _ _ HQW.out.drew.rm).trans (by rw [HEW.out]; exact cols_at _ (by omega)))
        have HN : Hid (NW w3 (C ((n + 1 + 15) / 16)) E d.size (partF nonce KW (bsOf d) (n + 1)) (wq.drew.setCell ⟨w3.heap.size + 1 + 1, n, none⟩ (.int .u8 (cntF nonce KW (bsOf d) n : Nat)))) := HQW.out.drew.byte hlt
        have HNE : Hid (E.size = 4 ∧ ((n + 1) % 16 ≠ 0 → E = cols (cl (stB (ctrS nonce ((n + 1 - 1) / 16)) KW 14)))) := ⟨by rw [HEW.out]; rfl, fun _ => HEW.out⟩
        have em : (n : Int) % 16 = ((n % 16 : Nat) : Int) := by omega
        clear HQW HEW
        generalize cntF nonce KW (bsOf d) n = z at hxo HN
        generalize stB (ctrS nonce (n / 16)) KW 14 (n % 16) = y at hy hxo HBY
        generalize bsOf d n = x at cd hx hxo
        generalize n % 16 = m at em hm16 HBY
        refine wp_region_any (by kernel_rfl) ?_
        change wpAny _ _ _ _ _ _ _ (World.drew _)
        refine wpAny_take (i := 0) (v := .slice (some ⟨w3.heap.size + 1 + 1, 0, none⟩) d.size cap) rfl (by kernel_rfl) (by kernel_rfl) (by kernel_rfl) (fun _ _ _ h => h) (Or.inl ⟨by rfl, by intro w; go_simp⟩) ?_
        (try simp only [List.getElem_toArray, List.getElem_cons_succ, List.getElem_cons_zero, Act.put, List.setIfInBounds_toArray, List.set_cons_zero, List.set_cons_succ])
        refine wpAny_take (i := 1) (v := .int .i64 ((n : Int))) rfl (by kernel_rfl) (by kernel_rfl) (by kernel_rfl) (fun _ _ _ h => h) (Or.inl ⟨by rfl, by intro w; go_simp⟩) ?_
        (try simp only [List.getElem_toArray, List.getElem_cons_succ, List.getElem_cons_zero, Act.put, List.setIfInBounds_toArray, List.set_cons_zero, List.set_cons_succ])
        refine wpAny_take (i := 2) (v := .pointer (some ⟨w3.heap.size + 1 + 1, n, none⟩)) rfl (by kernel_rfl) (by kernel_rfl) (by kernel_rfl) (fun _ _ _ h => h) (Or.inl ⟨by rfl, by intro w; go_simp <;> (first | omega | (rw [IntKind.wrap_i64]; omega) | (rw [Int.tmod_eq_emod_of_nonneg (by omega)]; omega))⟩) ?_
        (try simp only [List.getElem_toArray, List.getElem_cons_succ, List.getElem_cons_zero, Act.put, List.setIfInBounds_toArray, List.set_cons_zero, List.set_cons_succ])
        refine wpAny_take (i := 4) (v := .int .i64 ((n : Int))) rfl (by kernel_rfl) (by kernel_rfl) (by kernel_rfl) (fun _ _ _ h => h) (Or.inl ⟨by rfl, by intro w; go_simp⟩) ?_
        (try simp only [List.getElem_toArray, List.getElem_cons_succ, List.getElem_cons_zero, Act.put, List.setIfInBounds_toArray, List.set_cons_zero, List.set_cons_succ])
        refine wpAny_take (i := 5) (v := .int .i64 ((m : Int))) rfl (by kernel_rfl) (by kernel_rfl) (by kernel_rfl) (fun _ _ _ h => h) (Or.inl ⟨by rfl, by intro w; go_simp <;> (first | omega | (rw [IntKind.wrap_i64]; omega) | (rw [Int.tmod_eq_emod_of_nonneg (by omega)]; omega))⟩) ?_
        (try simp only [List.getElem_toArray, List.getElem_cons_succ, List.getElem_cons_zero, Act.put, List.setIfInBounds_toArray, List.set_cons_zero, List.set_cons_succ])
        refine wpAny_ready (rs := [3, 6]) (by kernel_rfl) (by simp) ?_
        refine AllReady.cons rfl (fun K hK => ?_) (AllReady.cons rfl (fun K hK => ?_) AllReady.nil)
        · rw [if_pos (by rfl)]
          go_simp
          refine hK _ _ ?_
          clear hK K
          (try simp only [List.getElem_toArray, List.getElem_cons_succ, List.getElem_cons_zero, Act.put, List.setIfInBounds_toArray, List.set_cons_zero, List.set_cons_succ])
          refine wpAny_ready (rs := [6]) (by kernel_rfl) (by simp) ?_
          refine AllReady.cons rfl (fun K hK => ?_) AllReady.nil
          rw [if_pos (by rfl)]
          go_simp
          refine HBY.out.mono ?_
          rintro e w' ⟨rfl, hw⟩
          subst w'
          refine hK _ _ ?_
          clear hK K
          (try simp only [List.getElem_toArray, List.getElem_cons_succ, List.getElem_cons_zero, Act.put, List.setIfInBounds_toArray, List.set_cons_zero, List.set_cons_succ])
          refine wpAny_take (i := 7) (v := .int .u8 (z : Int)) rfl (by kernel_rfl) (by kernel_rfl) (by kernel_rfl) (fun _ _ _ h => h) (Or.inl ⟨by rfl, by intro w; go_simp⟩) ?_
          (try simp only [List.getElem_toArray, List.getElem_cons_succ, List.getElem_cons_zero, Act.put, List.setIfInBounds_toArray, List.set_cons_zero, List.set_cons_succ])
          refine wpAny_take (i := 8) (v := .pointer (some ⟨w3.heap.size + 1 + 1, n, none⟩)) rfl (by kernel_rfl) (by kernel_rfl) (by kernel_rfl) (fun _ _ _ h => h) (Or.inl ⟨by rfl, by intro w; go_simp <;> (first | omega | (rw [IntKind.wrap_i64]; omega) | (rw [Int.tmod_eq_emod_of_nonneg (by omega)]; omega))⟩) ?_
          (try simp only [List.getElem_toArray, List.getElem_cons_succ, List.getElem_cons_zero, Act.put, List.setIfInBounds_toArray, List.set_cons_zero, List.set_cons_succ])
          refine wpAny_ready (rs := [9]) (by kernel_rfl) (by simp) ?_
          refine AllReady.cons rfl (fun K hK => ?_) AllReady.nil
          rw [if_pos (by rfl)]
          go_simp
          refine hK _ _ ?_
          clear hK K
          (try simp only [List.getElem_toArray, List.getElem_cons_succ, List.getElem_cons_zero, Act.put, List.setIfInBounds_toArray, List.set_cons_zero, List.set_cons_succ])
          refine wpAny_done (by kernel_rfl) ?_ _
          go_wp2_with fail
          go_roundw
          case rel =>
            first
              | exact ⟨n + 1, E, by omega, by go_num, HN.out, HNE.out.1, HNE.out.2⟩
              | (repeat apply Exists.intro
                 exact ⟨⟨n + 1, E, by omega, by go_num, HN.out, HNE.out.1, HNE.out.2⟩, rfl⟩)
          case measure => simp [cipIntOf]; omega
        · rw [if_pos (by rfl)]
          go_simp
          refine HBY.out.mono ?_
          rintro e w' ⟨rfl, hw⟩
          subst w'
          refine hK _ _ ?_
          clear hK K
          (try simp only [List.getElem_toArray, List.getElem_cons_succ, List.getElem_cons_zero, Act.put, List.setIfInBounds_toArray, List.set_cons_zero, List.set_cons_succ])
          refine wpAny_ready (rs := [3]) (by kernel_rfl) (by simp) ?_
          refine AllReady.cons rfl (fun K hK => ?_) AllReady.nil
          rw [if_pos (by rfl)]
          go_simp
          refine hK _ _ ?_
          clear hK K
          (try simp only [List.getElem_toArray, List.getElem_cons_succ, List.getElem_cons_zero, Act.put, List.setIfInBounds_toArray, List.set_cons_zero, List.set_cons_succ])
          refine wpAny_take (i := 7) (v := .int .u8 (z : Int)) rfl (by kernel_rfl) (by kernel_rfl) (by kernel_rfl) (fun _ _ _ h => h) (Or.inl ⟨by rfl, by intro w; go_simp⟩) ?_
          (try simp only [List.getElem_toArray, List.getElem_cons_succ, List.getElem_cons_zero, Act.put, List.setIfInBounds_toArray, List.set_cons_zero, List.set_cons_succ])
          refine wpAny_take (i := 8) (v := .pointer (some ⟨w3.heap.size + 1 + 1, n, none⟩)) rfl (by kernel_rfl) (by kernel_rfl) (by kernel_rfl) (fun _ _ _ h => h) (Or.inl ⟨by rfl, by intro w; go_simp <;> (first | omega | (rw [IntKind.wrap_i64]; omega) | (rw [Int.tmod_eq_emod_of_nonneg (by omega)]; omega))⟩) ?_
          (try simp only [List.getElem_toArray, List.getElem_cons_succ, List.getElem_cons_zero, Act.put, List.setIfInBounds_toArray, List.set_cons_zero, List.set_cons_succ])
          refine wpAny_ready (rs := [9]) (by kernel_rfl) (by simp) ?_
          refine AllReady.cons rfl (fun K hK => ?_) AllReady.nil
          rw [if_pos (by rfl)]
          go_simp
          refine hK _ _ ?_
          clear hK K
          (try simp only [List.getElem_toArray, List.getElem_cons_succ, List.getElem_cons_zero, Act.put, List.setIfInBounds_toArray, List.set_cons_zero, List.set_cons_succ])
          refine wpAny_done (by kernel_rfl) ?_ _
          go_wp2_with fail
          go_roundw
          case rel =>
            first
              | exact ⟨n + 1, E, by omega, by go_num, HN.out, HNE.out.1, HNE.out.2⟩
              | (repeat apply Exists.intro
                 exact ⟨⟨n + 1, E, by omega, by go_num, HN.out, HNE.out.1, HNE.out.2⟩, rfl⟩)
          case measure => simp [cipIntOf]; omega
    · obtain rfl : n = d.size := by omega
      have hcb := run_convert_bytes_back wr 22 9 5 ⟨w3.heap.size + 1 + 1, 0, none⟩ cap (cntL nonce KW d) Tryz.underlying22 Tryz.underlying5 Tryz.underlying9 (fun j hj => by
        rw [add0]
        have hj' : j < d.size := by rwa [cntL_len] at hj
        rw [HQ.out.1.dat.word j hj', cntL_at]
        unfold partF
        rw [if_pos hj'])
      rw [cntL_len] at hcb
      have HR0 : Hid ((⟨(cntL nonce KW d).toArray⟩ : ByteArray) = cntB nonce KW d) := rfl
      rw [HR0.out] at hcb
      have HBF : Hid (Below w.heap.size w wr) := bl_trans HB3.out.1 HQ.out.1.below HB3.out.1.size
      generalize hR : cntB nonce KW d = R at hcb
      have HR : Hid (cntB nonce KW d = R) := hR
      clear hR HR0 HQ
      go_wp2_with fail
      go_ret2
      exact ⟨by rw [HR.out]; rfl, HBF.out⟩
end Go.Proofs.YtnkahdidelhdaacGreatDoor
