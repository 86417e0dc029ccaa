/-
  Four bytes of a word, each with another one in its place: the specification's and the code's.
-/
import Derived.Test.YtnkahdidelhdaacGreatDoorCipA
import Derived.Test.YtnkahdidelhdaacGreatDoorShaMath
import Derived.BigQuiet
namespace Go.Proofs.YtnkahdidelhdaacGreatDoor
open Go.RowKit

/-- a word's four bytes, each with the one in its place -/
def subW (x : Nat) : Nat := ((sbox (x / 16777216) * 256 + sbox (x / 65536 % 256)) * 256 + sbox (x / 256 % 256)) * 256 + sbox (x % 256)
theorem subW_lt {x : Nat} (hx : x < 4294967296) : subW x < 4294967296 := by
  have h0 := sbox_lt (x := x / 16777216) (by omega)
  have h1 := sbox_lt (x := x / 65536 % 256) (by omega)
  have h2 := sbox_lt (x := x / 256 % 256) (by omega)
  have h3 := sbox_lt (x := x % 256) (by omega)
  unfold subW; omega

set_option maxRecDepth 100000 in
set_option maxHeartbeats 2000000 in
theorem sword_any (g cap x : Nat) (w : World) (hx : x < 4294967296) (hT : ∀ j, j < 256 → w.cell? ⟨g, j, none⟩ = some (.int .u32 (sbox j : Nat))) :
    Calls Tryz.prog 53 #[.slice (some ⟨g, 0, none⟩) 256 cap, .int .u32 (x : Int)] w fun e w' => e = .returned (.int .u32 (subW x : Nat)) ∧ w' = w.drew := by
  have HO : Hid (bits .or .u32 (bits .or .u32 (bits .or .u32 ((sbox (x / 16777216) : Nat) * 16777216) ((sbox (x / 65536 % 256) : Nat) * 65536)) ((sbox (x / 256 % 256) : Nat) * 256)) ((sbox (x % 256) : Nat) : Int) = ((subW x : Nat) : Int)) :=
    or_word _ _ _ _ (sbox_lt (by omega)) (sbox_lt (by omega)) (sbox_lt (by omega)) (sbox_lt (by omega))
  have c0 := hT (x / 16777216) (by omega)
  have c1 := hT (x / 65536 % 256) (by omega)
  have c2 := hT (x / 256 % 256) (by omega)
  have c3 := hT (x % 256) (by omega)
  have s0 := sbox_lt (x := x / 16777216) (by omega)
  have s1 := sbox_lt (x := x / 65536 % 256) (by omega)
  have s2 := sbox_lt (x := x / 256 % 256) (by omega)
  have s3 := sbox_lt (x := x % 256) (by omega)
  generalize sbox (x / 16777216) = v0 at HO c0 s0
  generalize sbox (x / 65536 % 256) = v1 at HO c1 s1
  generalize sbox (x / 256 % 256) = v2 at HO c2 s2
  generalize sbox (x % 256) = v3 at HO c3 s3
  have e0 : (x : Int) / 16777216 = ((x / 16777216 : Nat) : Int) := by omega
  have e1 : (x : Int) / 65536 % 256 = ((x / 65536 % 256 : Nat) : Int) := by omega
  have e2 : (x : Int) / 256 % 256 = ((x / 256 % 256 : Nat) : Int) := by omega
  have e3 : (x : Int) % 256 = ((x % 256 : Nat) : Int) := by omega
  have i0 : x / 16777216 < 256 := by omega
  have i1 : x / 65536 % 256 < 256 := by omega
  have i2 : x / 256 % 256 < 256 := by omega
  have i3 : x % 256 < 256 := by omega
  generalize x / 16777216 = j0 at c0 e0 i0
  generalize x / 65536 % 256 = j1 at c1 e1 i1
  generalize x / 256 % 256 = j2 at c2 e2 i2
  generalize x % 256 = j3 at c3 e3 i3
  clear hT
  go_enter Tryz.func53, Tryz.ntmps53
  go_wp2_with fail
  go_region
  go_wp2_with fail
  go_ret
  exact ⟨by rw [← HO.out]; rfl, rfl⟩

set_option maxRecDepth 100000 in
set_option maxHeartbeats 2000000 in
theorem subst_any (b x : Nat) (w : World) (hx : x < 4294967296) (hT : ∀ j, j < 256 → w.cell? ⟨b, 60 + j, none⟩ = some (.int .u32 (sbox j : Nat))) :
    Calls Tryz.prog 75 #[.pointer (some ⟨b, 0, none⟩), .int .u32 (x : Int)] w fun e w' => e = .returned (.int .u32 (subW x : Nat)) ∧ w' = w.drew := by
  have HO : Hid (bits .or .u32 (bits .or .u32 (bits .or .u32 ((sbox (x / 16777216) : Nat) * 16777216) ((sbox (x / 65536 % 256) : Nat) * 65536)) ((sbox (x / 256 % 256) : Nat) * 256)) ((sbox (x % 256) : Nat) : Int) = ((subW x : Nat) : Int)) :=
    or_word _ _ _ _ (sbox_lt (by omega)) (sbox_lt (by omega)) (sbox_lt (by omega)) (sbox_lt (by omega))
  have c0 := hT (x / 16777216) (by omega)
  have c1 := hT (x / 65536 % 256) (by omega)
  have c2 := hT (x / 256 % 256) (by omega)
  have c3 := hT (x % 256) (by omega)
  have s0 := sbox_lt (x := x / 16777216) (by omega)
  have s1 := sbox_lt (x := x / 65536 % 256) (by omega)
  have s2 := sbox_lt (x := x / 256 % 256) (by omega)
  have s3 := sbox_lt (x := x % 256) (by omega)
  generalize sbox (x / 16777216) = v0 at HO c0 s0
  generalize sbox (x / 65536 % 256) = v1 at HO c1 s1
  generalize sbox (x / 256 % 256) = v2 at HO c2 s2
  generalize sbox (x % 256) = v3 at HO c3 s3
  have e0 : (x : Int) / 16777216 = ((x / 16777216 : Nat) : Int) := by omega
  have m : ∀ y : Nat, y < 4294967296 → bits .and .u32 (y : Int) 255 = ((y % 256 : Nat) : Int) := fun y hy => by
    have := bits_mask .u32 32 (by decide) (fun n _ _ => by rw [IntKind.wrap_u32]; omega) 8 (by decide) (y : Int) (by omega) (by omega)
    exact this.trans (by omega)
  have e1 : bits .and .u32 ((x : Int) / 65536) 255 = ((x / 65536 % 256 : Nat) : Int) := by
    rw [show (x : Int) / 65536 = ((x / 65536 : Nat) : Int) by omega]; exact m _ (by omega)
  have e2 : bits .and .u32 ((x : Int) / 256) 255 = ((x / 256 % 256 : Nat) : Int) := by
    rw [show (x : Int) / 256 = ((x / 256 : Nat) : Int) by omega]; exact m _ (by omega)
  have e3 : bits .and .u32 (x : Int) 255 = ((x % 256 : Nat) : Int) := m x hx
  have i0 : x / 16777216 < 256 := by omega
  have i1 : x / 65536 % 256 < 256 := by omega
  have i2 : x / 256 % 256 < 256 := by omega
  have i3 : x % 256 < 256 := by omega
  generalize x / 16777216 = j0 at c0 e0 i0
  generalize x / 65536 % 256 = j1 at c1 e1 i1
  generalize x / 256 % 256 = j2 at c2 e2 i2
  generalize x % 256 = j3 at c3 e3 i3
  clear hT m
  go_enter Tryz.func75, Tryz.ntmps75
  go_wp2_with fail
  go_region
  go_wp2_with fail
  go_ret
  exact ⟨by rw [← HO.out]; rfl, rfl⟩
end Go.Proofs.YtnkahdidelhdaacGreatDoor
