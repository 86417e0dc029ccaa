/-
  ReadTree: the code's.
-/
import Derived.Test.YtadimakdjndcdaeDoorRtC
namespace Go.Proofs.YtadimakdjndcdaeDoor
open Go.RowKit
set_option linter.unusedVariables false
set_option linter.unusedSimpArgs false
def RtPost (w : World) (R : Option (List NdI)) (e : Ending) (w' : World) : Prop := (∃ v, e = .returned (.tuple #[v, .bool R.isSome]) ∧ w'.ownsRow w.heap.size 38 4 v (R.getD []).length (ndC (R.getD []))) ∧ Below w.heap.size w w'
theorem RtPost.no {w w' : World} {R : Option (List NdI)} (h : R = none) (hb : Below w.heap.size w w') : RtPost w R (.returned (.tuple #[.slice none 0 0, .bool false])) w' := by
  subst h; exact ⟨⟨_, rfl, World.ownsRow_nil _ _ _ _⟩, hb⟩
theorem RtPost.yes {w w' : World} {R : Option (List NdI)} {L : List NdI} {v : Value} (h : R = some L) (ho : w'.ownsRow w.heap.size 38 4 v L.length (ndC L)) (hb : Below w.heap.size w w') : RtPost w R (.returned (.tuple #[v, .bool true])) w' := by
  subst h; exact ⟨⟨_, rfl, ho⟩, hb⟩
set_option maxRecDepth 100000 in
set_option maxHeartbeats 4000000 in
theorem rtd_any (s : ByteArray) (w : World) (hs : s.size ≤ 1048576) (hmx : MxL w) :
    Calls Tryd.prog 17 #[.string s] w fun e w' => RtPost w (rtD s) e w' := by
  have HN : Hid (∀ w, Calls Tryd.prog 47 #[.string s] w fun e w' => e = .returned (numIV (numI s)) ∧ Below w.heap.size w w') := fun w => numOf_any s w hs
  have HP : Hid (∀ (r : ByteArray) w, r.size ≤ 1048576 → Calls Tryd.prog 48 #[.string r] w fun e w' => (∃ p r' b, e = .returned (nodV p r' b) ∧ ((b = true ∧ nodI r = some (p, r')) ∨ (b = false ∧ nodI r = none))) ∧ Below w.heap.size w w') := fun r w h => nodeOf_any r w h
  have HMX : Hid (∀ w', Below w.heap.size w w' → MxL w') := fun w' h => hmx.on h
  clear hmx
  obtain ⟨i0, hi, hz0, hz1, hz2⟩ := info_parts Tryd.infNd
  cases hn : numI s with
  | none =>
    have HR : Hid (rtD s = none) := rtD_no1 hn
    rw [hn] at HN
    unfold numIV at HN
    clear hn
    go_enter Tryd.func17, Tryd.ntmps17
    go_wp2_with fail
    refine (HN.out _).mono ?_
    rintro e w1 ⟨rfl, hb1⟩
    go_wp2_with fail
    go_ret2
    exact RtPost.no HR.out hb1
  | some p =>
    obtain ⟨n, r0⟩ := p
    obtain ⟨hnb, hr0⟩ := numI_bd hn
    rw [hn] at HN
    unfold numIV at HN
    by_cases hn5 : n ≤ 40
    · have hnI : ¬ (40 : Int) < (n : Int) := by omega
      have HNS : Hid (numI s = some (n, r0) ∧ n ≤ 40) := ⟨hn, hn5⟩
      clear hn
      go_enter Tryd.func17, Tryd.ntmps17
      go_wp2_with fail
      refine (HN.out _).mono ?_
      rintro e w1 ⟨rfl, hb1⟩
      have HB1 : Hid (Below w.heap.size w w1) := hb1
      clear hb1 HN
      go_wp2_with fail
      go_loopw [5, 7, 22] (fun x v t wr => ∃ (i : Nat) (L : List NdI) (r : ByteArray), i ≤ n ∧ t = .int .i64 (i : Int) ∧ x = .string r ∧ Hid (nodsI r0 i = some (L, r)) ∧ Hid (wr.ownsRow w.heap.size 38 4 v L.length (ndC L) ∧ Below w.heap.size w wr)) (fun _ _ t _ => n - (intNd t).toNat)
      case atStart => exact ⟨0, [], r0, by omega, rfl, rfl, rfl, World.ownsRow_nil _ _ _ _, HB1.out⟩
      case round =>
        obtain ⟨i, L, r, hi2, rfl, rfl, HPI, HO⟩ := hrel
        obtain ⟨bl, br⟩ := nodsI_bd HPI.out
        by_cases hlt : i < n
        · have hltI : (i : Int) < (n : Int) := by omega
          have hb0 := HO.out.2.alloc HO.out.2.size (.cells #[.string ⟨#[]⟩, .bool false, .int .i64 0, .string ⟨#[]⟩] 38)
          have HB0 := hid hb0
          have HNE : Hid (∀ w', Below wr.heap.size wr w' → w'.ownsRow w.heap.size 38 4 _ L.length (ndC L)) := fun w' hb => own4_call HO.out.1 hb
          have hne := own4_ne HO.out.1 (Nat.le_refl _)
          have HNB := hid hne
          have hrs : r.size ≤ 1048576 := by omega
          have hLl : L.length ≤ 40 := by omega
          clear hb0 hne
          go_wp2_with fail
          refine (HP.out r _ hrs).mono ?_
          rintro e w3 ⟨⟨⟨a, f, l, d⟩, r', b, rfl, hcase⟩, hb3⟩
          have hbw : Below wr.heap.size wr w3 := blNd ((Below.refl _ _).alloc (Nat.le_refl _) _) hb3 (by simp)
          have hr3 : w3.heap[wr.heap.size]? = some (.cells #[.string ⟨#[]⟩, .bool false, .int .i64 0, .string ⟨#[]⟩] 38 (0, 0)) := (hb3.block _ (by simp)).trans (heap_alloc_new wr _)
          have HB3 : Hid (Below w.heap.size w w3) := blNd HB0.out hb3 HB0.out.size
          have hown3 := HNE.out w3 hbw
          have b0 : w3.cell? ⟨wr.heap.size, 0, none⟩ = some (.string ⟨#[]⟩) := cell_of_row _ _ _ _ _ _ hr3
          have b1 : w3.cell? ⟨wr.heap.size, 1, none⟩ = some (.bool false) := cell_of_row _ _ _ _ _ _ hr3
          have b2 : w3.cell? ⟨wr.heap.size, 2, none⟩ = some (.int .i64 0) := cell_of_row _ _ _ _ _ _ hr3
          have b3 : w3.cell? ⟨wr.heap.size, 3, none⟩ = some (.string ⟨#[]⟩) := cell_of_row _ _ _ _ _ _ hr3
          have z0 := frozen_of_row w3 wr.heap.size 0 _ _ hr3
          have z1 := frozen_of_row w3 wr.heap.size 1 _ _ hr3
          have z2 := frozen_of_row w3 wr.heap.size 2 _ _ hr3
          have z3 := frozen_of_row w3 wr.heap.size 3 _ _ hr3
          have hr4 := box4_row hr3 (.string a) (.bool f) (.int .i64 l) (.string d)
          have HBB := hid (box4_below HB3.out (g := wr.heap.size) HO.out.2.size (.string a) (.bool f) (.int .i64 l) (.string d))
          have hown4 := own4_set (own4_set (own4_set (own4_set hown3 HNB.out 0 (.string a)) HNB.out 1 (.bool f)) HNB.out 2 (.int .i64 l)) HNB.out 3 (.string d)
          have HSZ : Hid (((((w3.setCell ⟨wr.heap.size, 0, none⟩ (.string a)).setCell ⟨wr.heap.size, 1, none⟩ (.bool f)).setCell ⟨wr.heap.size, 2, none⟩ (.int .i64 l)).setCell ⟨wr.heap.size, 3, none⟩ (.string d)).heap.size = w3.heap.size) := by show _ = _; simp
          have c0 : ((((w3.setCell ⟨wr.heap.size, 0, none⟩ (.string a)).setCell ⟨wr.heap.size, 1, none⟩ (.bool f)).setCell ⟨wr.heap.size, 2, none⟩ (.int .i64 l)).setCell ⟨wr.heap.size, 3, none⟩ (.string d)).cell? ⟨wr.heap.size, 0, none⟩ = some (.string a) := cell_of_row _ _ _ _ _ _ hr4
          have c1 : ((((w3.setCell ⟨wr.heap.size, 0, none⟩ (.string a)).setCell ⟨wr.heap.size, 1, none⟩ (.bool f)).setCell ⟨wr.heap.size, 2, none⟩ (.int .i64 l)).setCell ⟨wr.heap.size, 3, none⟩ (.string d)).cell? ⟨wr.heap.size, 1, none⟩ = some (.bool f) := cell_of_row _ _ _ _ _ _ hr4
          have c2 : ((((w3.setCell ⟨wr.heap.size, 0, none⟩ (.string a)).setCell ⟨wr.heap.size, 1, none⟩ (.bool f)).setCell ⟨wr.heap.size, 2, none⟩ (.int .i64 l)).setCell ⟨wr.heap.size, 3, none⟩ (.string d)).cell? ⟨wr.heap.size, 2, none⟩ = some (.int .i64 l) := cell_of_row _ _ _ _ _ _ hr4
          have c3 : ((((w3.setCell ⟨wr.heap.size, 0, none⟩ (.string a)).setCell ⟨wr.heap.size, 1, none⟩ (.bool f)).setCell ⟨wr.heap.size, 2, none⟩ (.int .i64 l)).setCell ⟨wr.heap.size, 3, none⟩ (.string d)).cell? ⟨wr.heap.size, 3, none⟩ = some (.string d) := cell_of_row _ _ _ _ _ _ hr4
          have hBsz := HBB.out.size
          have HO4 := hid hown4
          clear hb3 hbw hr3 hr4 hown3 hown4 HNE HNB HB0 HO
          unfold nodV ndVal
          rcases hcase with ⟨rfl, hp⟩ | ⟨rfl, hp⟩
          · have HST : Hid (nodsI r0 (i + 1) = some (L ++ [⟨a, f, l, d⟩], r')) := nodsI_go HPI.out hp
            have HSN : Hid (ndC L ++ [.string a, .bool f, .int .i64 l, .string d] = ndC (L ++ [⟨a, f, l, d⟩])) := ndC_snoc L ⟨a, f, l, d⟩
            clear hp HPI
            go_wp2_with (at_builtin; (refine wpList_append_own _ rfl _ _ 27 rfl w.heap.size 38 i0 _ 4 48 Tryd.underlying27 hi hz0 hz1 hz2 rfl (by decide) _ _ _ rfl (HO4.out.alloc _) ⟨w3.heap.size, 0, none⟩ 1 1 [_, _, _, _] rfl rfl (cell_four_at HSZ.out) ?k2 ?k3 ?k4 ?k5 ?_))
            case k2 => exact four_one _ _ _ _
            case k3 => unfold maxLen; omega
            case k4 => omega
            case k5 => rw [World.size_alloc]; omega
            intro v' w5 hown' hgrow _
            have hb5 : Below w.heap.size w w5 := (HBB.out.alloc HBB.out.size _).grown hgrow (by rw [World.size_alloc]; omega) (fun k hk => (HO4.out.lt k hk).1)
            have H5 : Hid (w5.ownsRow w.heap.size 38 4 v' (L ++ [NdI.mk a f l d]).length (ndC (L ++ [NdI.mk a f l d])) ∧ Below w.heap.size w w5) := ⟨by have h := hown'; rw [HSN.out] at h; rw [List.length_append, bl]; exact h, hb5⟩
            clear hown' hgrow hb5 HSN HO4 HBB HSZ
            go_wp2_with fail
            go_roundw
            case rel => exact ⟨i + 1, _, _, by omega, by go_num, rfl, HST, H5.out.1, H5.out.2⟩
            case measure => simp [intNd]; omega
          · have HR : Hid (rtD s = none) := rtD_no3 HNS.out.1 (by
              have h := nodsI_none (nodsI_stop HPI.out hp) (n - (i + 1))
              rwa [show i + 1 + (n - (i + 1)) = n by omega] at h)
            clear hp HPI
            go_wp2_with fail
            go_ret2
            exact RtPost.no HR.out HBB.out
        · obtain rfl : i = n := by omega
          have HK : Hid (∀ w', Below wr.heap.size wr w' → True) := fun _ _ => trivial
          obtain ⟨va, vc, rfl⟩ := own4_slice HO.out.1
          have HPK : Hid (Calls Tryd.prog 19 #[.slice va L.length vc] wr fun e w' => e = .returned (.bool (ndB (ndF L) L.length)) ∧ Below wr.heap.size wr w') := treeOk_any _ L.length (ndF L) wr (nodsI_le (by omega) HPI.out) (HMX.out _ HO.out.2) (own4_arg HO.out.1)
          by_cases hre : r = ⟨#[]⟩
          · subst hre
            by_cases hpc : ndR (ndF L) L.length
            · have HR : Hid (rtD s = some L) := rtD_yes HNS.out.1 HNS.out.2 HPI.out (by rw [bl] at hpc; exact hpc)
              rw [ndB_yes hpc] at HPK
              clear hpc HPI bl br HNS
              go_wp2_with fail
              refine HPK.out.mono ?_
              rintro e w3 ⟨rfl, hb3⟩
              have H3 : Hid (w3.ownsRow w.heap.size 38 4 (.slice va L.length vc) L.length (ndC L) ∧ Below w.heap.size w w3) := ⟨own4_call HO.out.1 hb3, blNd HO.out.2 hb3 HO.out.2.size⟩
              clear hb3 HO HPK
              go_wp2_with fail
              go_ret2
              exact RtPost.yes HR.out H3.out.1 H3.out.2
            · have HR : Hid (rtD s = none) := rtD_no4 HNS.out.1 HPI.out (fun c => hpc (by rw [bl]; exact c.2))
              rw [ndB_no hpc] at HPK
              clear hpc HPI bl br HNS
              go_wp2_with fail
              refine HPK.out.mono ?_
              rintro e w3 ⟨rfl, hb3⟩
              have H3 : Hid (Below w.heap.size w w3) := blNd HO.out.2 hb3 HO.out.2.size
              clear hb3 HO HPK
              go_wp2_with fail
              go_ret2
              exact RtPost.no HR.out H3.out
          · have HR : Hid (rtD s = none) := rtD_no4 HNS.out.1 HPI.out (fun c => hre c.1)
            have he := d_neR hre
            clear hre HPI bl br HNS HPK
            go_wp2_with fail
            go_ret2
            exact RtPost.no HR.out HO.out.2
    · have hnI : (40 : Int) < (n : Int) := by omega
      have HR : Hid (rtD s = none) := rtD_no2 hn hn5
      clear hn hn5
      go_enter Tryd.func17, Tryd.ntmps17
      go_wp2_with fail
      refine (HN.out _).mono ?_
      rintro e w1 ⟨rfl, hb1⟩
      go_wp2_with fail
      go_ret2
      exact RtPost.no HR.out hb1
end Go.Proofs.YtadimakdjndcdaeDoor
