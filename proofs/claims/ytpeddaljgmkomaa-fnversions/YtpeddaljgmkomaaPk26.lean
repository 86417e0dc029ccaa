/-
  Several texts of this seat as one: Text, Data, Drw.
-/
import Derived.Test.YtpeddaljgmkomaaPk25
import Derived.Deep.RegionWith

/-!   The reader of drawn bytes: what 'text' answers: some short text; and how it is opened. -/
namespace Go.Proofs.Ytpeddaljgmkomaa
open Go.RowKit

set_option maxRecDepth 100000 in
set_option maxHeartbeats 2000000 in
theorem text_any {w0 : World} {a : Option Addr} {len cap g : Nat} {W : World} (hS : Src w0 a len) (h : RD w0 a len cap g W) :
    Calls Try.prog 66 #[.pointer (some ⟨g, 0, none⟩)] W fun e w' => (∃ s : ByteArray, s.size ≤ 20 ∧ e = .returned (.string s)) ∧ Rd3 w0 a len cap g W w' := by
  have hne : W.heap.size ≠ g := by have := h.lt; omega
  go_enter Try.func66, Try.ntmps66
  go_wp2_with fail
  refine (below_any hS (h.alloc _) 13 (by omega) (by omega)).mono ?_
  rintro e w2 ⟨⟨y, hy1, hy2, rfl⟩, hr2⟩
  obtain ⟨n, rfl⟩ := Int.eq_ofNat_of_zero_le hy1
  have hc := fun (j : Nat) (v : Value) (hj : _) => hr2.grown.cell (a := ⟨W.heap.size, j, none⟩) (v := v) ((World.cell?_alloc_mark W _ _ _ j).trans hj) (by simpa using hne)
  obtain ⟨s, hs, hsz⟩ : ∃ s : ByteArray, w2.cell? ⟨W.heap.size, n, none⟩ = some (.string s) ∧ s.size ≤ 20 := by
    have hn : n < 13 := by omega
    clear hy1 hy2 hr2 h
    match n, hn with
    | 0, _ => exact ⟨_, hc 0 _ rfl, by decide⟩
    | 1, _ => exact ⟨_, hc 1 _ rfl, by decide⟩
    | 2, _ => exact ⟨_, hc 2 _ rfl, by decide⟩
    | 3, _ => exact ⟨_, hc 3 _ rfl, by decide⟩
    | 4, _ => exact ⟨_, hc 4 _ rfl, by decide⟩
    | 5, _ => exact ⟨_, hc 5 _ rfl, by decide⟩
    | 6, _ => exact ⟨_, hc 6 _ rfl, by decide⟩
    | 7, _ => exact ⟨_, hc 7 _ rfl, by decide⟩
    | 8, _ => exact ⟨_, hc 8 _ rfl, by decide⟩
    | 9, _ => exact ⟨_, hc 9 _ rfl, by decide⟩
    | 10, _ => exact ⟨_, hc 10 _ rfl, by decide⟩
    | 11, _ => exact ⟨_, hc 11 _ rfl, by decide⟩
    | 12, _ => exact ⟨_, hc 12 _ rfl, by decide⟩
  have hr3 : Rd3 w0 a len cap g W w2 := ((Rd3.refl h).alloc _).trans hr2
  clear hc hr2
  go_wp2_with fail
  go_ret
  exact ⟨⟨s, hsz, rfl⟩, hr3⟩

set_option maxRecDepth 100000 in
theorem open_any {w0 : World} {a : Option Addr} {len cap : Nat} {W : World} (hb : Below w0.heap.size w0 W) :
    Calls Try.prog 58 #[.slice a len cap] W fun e w' => e = .returned (.pointer (some ⟨W.heap.size, 0, none⟩)) ∧ RD w0 a len cap W.heap.size w' ∧ W.grownBy w' none := by
  go_enter Try.func58, Try.ntmps58
  go_wp2_with fail
  go_ret
  exact ⟨rfl, ⟨hb.alloc hb.size _, hb.size, 0, by omega, MapKept.heap_alloc W _ |>.1⟩, World.grownBy_alloc _ _ _⟩
end Go.Proofs.Ytpeddaljgmkomaa

/-!   The reader of drawn bytes: what 'data' answers: some text of at most 600 bytes. -/
namespace Go.Proofs.Ytpeddaljgmkomaa
open Go.RowKit

theorem mk_size (l : List UInt8) : (⟨l.toArray⟩ : ByteArray).size = l.length := by simp [ByteArray.size]

set_option maxRecDepth 100000 in
set_option maxHeartbeats 2000000 in
theorem data_any {w0 : World} {a : Option Addr} {len cap g : Nat} {W : World} (hS : Src w0 a len) (h : RD w0 a len cap g W) (n : Int) (h0 : 0 ≤ n) (h1 : n ≤ 1000) :
    Calls Try.prog 60 #[.pointer (some ⟨g, 0, none⟩), .int .i64 n] W fun e w' => (∃ s : ByteArray, s.size ≤ 600 ∧ e = .returned (.string s)) ∧ Rd3 w0 a len cap g W w' := by
  go_enter Try.func60, Try.ntmps60
  go_wp2_with fail
  refine (below_any hS h (n + 1) (by omega) (by omega)).mono ?_
  rintro e w1 ⟨⟨y, hy1, hy2, rfl⟩, hr1⟩
  clear h
  obtain ⟨m, rfl⟩ := Int.eq_ofNat_of_zero_le hy1
  go_wp2_with fail
  go_loopw [5, 6] (fun v i wr => ∃ (j : Nat) (s : ByteArray), i = .int .i64 j ∧ (j : Int) ≤ n ∧ s.size ≤ 600 ∧ v = .string s ∧ Rd3 w0 a len cap g W wr)
    (fun _ i _ => (nextIntOf i).toNat)
  case atStart => exact ⟨m, ⟨#[]⟩, rfl, by omega, by decide, rfl, hr1⟩
  case round =>
    obtain ⟨j, s, rfl, hj, hs, rfl, hr⟩ := hrel
    clear hr1
    by_cases hlt : 0 < j
    · go_wp2_with fail
      refine (below_any hS hr.rd 5 (by omega) (by omega)).mono ?_
      rintro e w2 ⟨⟨x, hx1, hx2, rfl⟩, hr2⟩
      replace hr2 := hr.trans hr2
      clear hr
      by_cases e0 : x = 0
      · subst e0
        go_wp2_with fail
        refine (bytes_any hS hr2.rd 6 (by omega) (by omega)).mono ?_
        rintro e w3 ⟨⟨l, hl, rfl⟩, hr3⟩
        replace hr3 := hr2.trans hr3
        clear hr2
        by_cases hbig : 600 < s.size + l.length
        · go_wp2_with fail
          go_roundw
          case rel => exact ⟨j - 1, _, by go_num, by omega, by simp; omega, rfl, hr3⟩
          case measure => simp [nextIntOf]; omega
        · go_wp2_with fail
          go_roundw
          case rel => exact ⟨j - 1, s ++ (⟨l.toArray⟩ : ByteArray), by go_num, by omega, by rw [ByteArray.size_append, mk_size l]; omega, rfl, hr3⟩
          case measure => simp [nextIntOf]; omega
      · have e0' : (x == 0) = false := beq_eq_false_iff_ne.2 e0
        by_cases e1 : x = 1
        · subst e1
          by_cases hz : 0 < s.size
          · go_wp2_with fail
            refine (below_any hS hr2.rd s.size (by omega) (by omega)).mono ?_
            rintro e w3 ⟨⟨z, hz1, hz2, rfl⟩, hr3⟩
            obtain ⟨q, rfl⟩ := Int.eq_ofNat_of_zero_le hz1
            replace hr3 := hr2.trans hr3
            clear hr2
            by_cases hbig : 600 < s.size + (s.size - q)
            · go_wp2_with fail
              go_roundw
              case rel => exact ⟨j - 1, _, by go_num, by omega, by simp; omega, rfl, hr3⟩
              case measure => simp [nextIntOf]; omega
            · go_wp2_with fail
              go_roundw
              case rel => exact ⟨j - 1, _, by go_num, by omega, by simp; omega, rfl, hr3⟩
              case measure => simp [nextIntOf]; omega
          · go_wp2_with fail
            go_roundw
            case rel => exact ⟨j - 1, s, by go_num, by omega, by omega, rfl, hr2⟩
            case measure => simp [nextIntOf]; omega
        · have e1' : (x == 1) = false := beq_eq_false_iff_ne.2 e1
          go_wp2_with fail
          refine (text_any hS hr2.rd).mono ?_
          rintro e w3 ⟨⟨l, hl, rfl⟩, hr3⟩
          replace hr3 := hr2.trans hr3
          clear hr2
          by_cases hbig : 600 < s.size + l.size
          · go_wp2_with fail
            go_roundw
            case rel => exact ⟨j - 1, _, by go_num, by omega, by simp; omega, rfl, hr3⟩
            case measure => simp [nextIntOf]; omega
          · go_wp2_with fail
            go_roundw
            case rel => exact ⟨j - 1, _, by go_num, by omega, by simp; omega, rfl, hr3⟩
            case measure => simp [nextIntOf]; omega
    · go_wp2_with fail
      go_ret
      exact ⟨⟨s, hs, rfl⟩, hr⟩
end Go.Proofs.Ytpeddaljgmkomaa

/-!   How the reader of drawn bytes is opened, and kept behind other calls. -/
namespace Go.Proofs.Ytpeddaljgmkomaa
open Go.RowKit

theorem src_of {w : World} {a : Option Addr} {len cap : Nat} {zs : List Int}
    (h : (a = none ∧ len = 0 ∧ cap = 0 ∧ zs = []) ∨ ∃ x : Addr, a = some x ∧ len ≤ cap ∧ cap ≤ maxLen ∧ zs.length = cap ∧ (∀ i, i < zs.length → w.cell? (x.add i) = some (.int .u8 (zs.getD i 0))) ∧ ∀ n ∈ zs, (Lit.int .u8 n).wf = true)
    (hl : len ≤ 1048576) : Src w a len := by
  refine ⟨by omega, ?_⟩
  rcases h with ⟨_, h, _⟩ | ⟨x, rfl, h1, h2, h3, h4, h5⟩
  · exact Or.inl h
  · by_cases h0 : len = 0
    · exact Or.inl h0
    · refine Or.inr ?_
      obtain ⟨b, o, sp⟩ := x
      have hc0 := h4 0 (by omega)
      have hadd : (⟨b, o, sp⟩ : Addr).add 0 = ⟨b, o, sp⟩ := by simp [Addr.add]
      rw [hadd] at hc0
      cases sp with
      | some s =>
        exfalso
        simp only [World.cell?] at hc0
        split at hc0 <;> simp at hc0
      | none =>
        refine ⟨b, o, rfl, block_lt_of_cell hc0, fun i hi => ?_⟩
        have hci := h4 i (by omega)
        have ea : (⟨b, o, none⟩ : Addr).add i = ⟨b, o + i, none⟩ := by
          unfold Addr.add
          by_cases e : i = 0
          · subst e; simp
          · simp [e]
        rw [ea] at hci
        have hm : zs.getD i 0 ∈ zs := by
          rw [List.getD_eq_getElem?_getD, List.getElem?_eq_getElem (by omega)]
          exact List.getElem_mem _
        have hb := bounds_u8 (h5 _ hm)
        refine ⟨(zs.getD i 0).toNat, by omega, ?_⟩
        rw [hci]
        congr 2
        omega

theorem RD.past {w0 : World} {a : Option Addr} {len cap g : Nat} {W W' : World} (h : RD w0 a len cap g W) (hb : Below W.heap.size W W') : RD w0 a len cap g W' := by
  have hl := h.lt
  obtain ⟨h1, h2, p, hp, hh⟩ := h
  exact ⟨h1.trans (hb.mono h1.size), h2, p, hp, by rw [hb.block g hl]; exact hh⟩
theorem six {C : Array Value} {w1 w2 : World} {g : Nat} {t : TypeId} (hg : (w1.alloc (.cells C t)).grownBy w2 (some g)) (hne : w1.heap.size ≠ g) (n : Nat) (v : Value) (hv : C[n]? = some v) :
    w2.cell? ⟨w1.heap.size, n, none⟩ = some v :=
  hg.cell (a := ⟨w1.heap.size, n, none⟩) ((World.cell?_alloc_mark w1 C t _ n).trans hv) (by simpa using hne)

end Go.Proofs.Ytpeddaljgmkomaa
