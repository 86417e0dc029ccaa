/-
  Encrypt of the specification.
-/
import Derived.Test.YtnkahdidelhdaabEncEncS
namespace Go.Proofs.Ytnkahdidelhdaab
open Go.RowKit

set_option maxRecDepth 100000 in
theorem sencrypt_no (k blk : ByteArray) (w : World) (h : ¬ (k.size = 32 ∧ blk.size = 16)) :
    Calls Try.prog 16 #[.string k, .string blk] w fun e w' => e = .returned (.tuple #[.string ⟨#[]⟩, .bool false]) ∧ w' = w := by
  by_cases hk : k.size = 32
  · have h1 : (k.size : Int) = 32 := by omega
    have h2 : ¬ (blk.size : Int) = 16 := by omega
    have h3 : ((blk.size : Int) != 16) = true := by simp; omega
    clear h hk
    go_enter Try.func16, Try.ntmps16
    go_wp2_with fail
    go_ret2
    exact ⟨rfl, rfl⟩
  · have h1 : ¬ (k.size : Int) = 32 := by omega
    have h3 : ((k.size : Int) != 32) = true := by simp; omega
    clear h hk
    go_enter Try.func16, Try.ntmps16
    go_wp2_with fail
    go_ret2
    exact ⟨rfl, rfl⟩
set_option maxRecDepth 100000 in
set_option maxHeartbeats 1000000 in
theorem sencrypt_any (k blk : ByteArray) (w : World) (hk : k.size = 32) (hb : blk.size = 16) :
    Calls Try.prog 16 #[.string k, .string blk] w fun e w' => e = .returned (.tuple #[.string (encB (bsOf blk) (kw (bsOf k))), .bool true]) ∧ Below w.heap.size w w' := by
  have HK : Hid (k.size = 32 ∧ blk.size = 16) := ⟨hk, hb⟩
  have h1 : (k.size : Int) = 32 := by omega
  have h2 : (blk.size : Int) = 16 := by omega
  clear hk hb
  go_enter Try.func16, Try.ntmps16
  go_wp2_with fail
  refine (stab_any _).mono ?_
  rintro e w1 ⟨⟨v, rfl, hown⟩, hb1⟩
  obtain ⟨g, cap, rfl, hg1, hg2, hg3, hcells⟩ := owns_form hown (by omega)
  have HS : Hid (Calls Try.prog 39 #[.slice (some ⟨g, 0, none⟩) 256 cap, .string k] w1 fun e w' => (∃ v, e = .returned v ∧ w'.ownsRow w1.heap.size 24 1 v 60 (wCells (kw (bsOf k)) 60)) ∧ Below w1.heap.size w1 w') := skeys_any k g cap w1 HK.out.1 hcells hg2
  have HB1 : Hid (Below w.heap.size w w1) := hb1
  have HG : Hid (g < w1.heap.size ∧ ∀ j, j < 256 → w1.cell? ⟨g, j, none⟩ = some (.int .u32 (sbox j : Nat))) := ⟨hg2, hcells⟩
  clear hown hcells hb1 hg1 hg2 hg3
  go_wp2_with fail
  refine HS.out.mono ?_
  rintro e w2 ⟨⟨v, rfl, hown⟩, hb2⟩
  obtain ⟨g2, cap2, rfl, hg1, hg2, hg3, hcells⟩ := owns_form hown (by omega)
  have HB2 : Hid (Below w.heap.size w w2) := bl_trans HB1.out hb2 HB1.out.size
  have HE : Hid (Calls Try.prog 38 #[.slice (some ⟨g, 0, none⟩) 256 cap, .slice (some ⟨g2, 0, none⟩) 60 cap2, .string blk] w2 fun e w' => e = .returned (.string (encB (bsOf blk) (kw (bsOf k)))) ∧ Below w2.heap.size w2 w') :=
    senc_any g cap g2 cap2 blk (kw (bsOf k)) w2 HK.out.2 (Nat.lt_of_lt_of_le HG.out.1 hb2.size) (fun j hj => (hb2.cell (p := ⟨g, j, none⟩) HG.out.1).trans (HG.out.2 j hj)) hg2 hcells (kw_lt (bsOf_lt k))
  clear hown hcells hb2 hg1 hg2 hg3 HS HB1 HG
  generalize hR : encB (bsOf blk) (kw (bsOf k)) = R at HE
  have HR : Hid (encB (bsOf blk) (kw (bsOf k)) = R) := hR
  clear hR
  go_wp2_with fail
  refine HE.out.mono ?_
  rintro e w3 ⟨rfl, hb3⟩
  have HB3 : Hid (Below w.heap.size w w3) := bl_trans HB2.out hb3 HB2.out.size
  clear hb3
  go_wp2_with fail
  go_ret2
  exact ⟨by rw [HR.out]; rfl, HB3.out⟩
end Go.Proofs.Ytnkahdidelhdaab
