/-
  A set of files: its names in order, its files as a list.
-/
import Derived.Test.YtanlggglbpibfaaFsF
import Derived.Test.YtanlggglbpibfaaShelfI
import Derived.Sort.KeysCollected
import Derived.Laws.IdiomStrings
import Derived.Laws.BytesArg
namespace Go.Proofs.Ytanlggglbpibfaa
open Go.RowKit
open Go.Maps (Keyed)
set_option linter.unusedVariables false
set_option linter.unusedSimpArgs false
theorem fblt_lt : ∀ a b : List UInt8, Op.bytesLess a b = true ↔ a < b
  | [], [] => by simp [Op.bytesLess]
  | [], b :: ys => by simp [Op.bytesLess]
  | a :: xs, [] => by simp [Op.bytesLess]
  | a :: xs, b :: ys => by
    rw [List.cons_lt_cons_iff]
    simp only [Op.bytesLess, Bool.or_eq_true, decide_eq_true_eq, Bool.and_eq_true, beq_iff_eq]
    rw [fblt_lt xs ys]
/-- names as cells -/
def nmC (L : List FlI) : List Value := L.map fun f => .string f.a
def nmL (L : List FlI) : List (List UInt8) := L.map fun f => f.a.data.toList
theorem nmL_nodup {L : List FlI} (h : riseF L) : (nmL L).Nodup := by
  unfold nmL List.Nodup
  rw [List.pairwise_map]
  exact List.Pairwise.imp (fun {a b} h e => fnL_ne h (ByteArray.ext (Array.ext' e))) h
theorem nmL_sorted {L : List FlI} (h : riseF L) : (nmL L).mergeSort Go.leB = nmL L := by
  refine List.mergeSort_of_pairwise ?_
  unfold nmL
  rw [List.pairwise_map]
  refine List.Pairwise.imp (fun {a b} h => ?_) h
  have h : Op.bytesLess a.a.toList b.a.toList = true := h
  rw [Lib.toList_data, Lib.toList_data] at h
  simp only [Go.leB, decide_eq_true_eq]
  exact List.le_of_lt ((fblt_lt _ _).1 h)
theorem nm_enc (L : List FlI) : (nmL L).map Go.Proofs.encStr = nmC L := by
  unfold nmL nmC
  rw [List.map_map]
  exact List.map_congr_left fun f _ => by show Go.Proofs.encStr _ = _; simp [Go.Proofs.encStr]
theorem fsf_has {L : List FlI} {V : ByteArray → Value} {l : List UInt8} : (∃ v, fsf L V (.string l) = some v) ↔ l ∈ nmL L := by
  unfold nmL
  rw [List.mem_map]
  show (∃ v, (fdF L ⟨l.toArray⟩).map _ = some v) ↔ _
  constructor
  · rintro ⟨v, hv⟩
    cases hf : fdF L ⟨l.toArray⟩ with
    | none => rw [hf] at hv; cases hv
    | some d => exact ⟨_, fdF_mem hf, by simp⟩
  · rintro ⟨f, hf, rfl⟩
    cases hx : fdF L ⟨f.a.data.toList.toArray⟩ with
    | none => exact absurd (key_back f.a).symm (fun c => (fdF_none.1 hx f hf) (by rw [key_back]))
    | some d => exact ⟨_, rfl⟩
set_option maxRecDepth 100000 in
set_option maxHeartbeats 1000000 in
theorem names15_any {lo p mb n : Nat} {L : List FlI} {V : ByteArray → Value} (w : World) (h : FsW w lo p mb L V n) (hl : L.length ≤ 1000000) :
    Calls Try.prog 86 #[.pointer (some ⟨p, 0, none⟩)] w fun e w' => (∃ v, e = .returned v ∧ w'.ownsRow w.heap.size 9 1 v L.length (nmC L)) ∧ Below w.heap.size w w' := by
  obtain ⟨D, hown, hsz, hD⟩ := h.map
  have c0 := cell_of_row _ _ 0 _ _ _ h.box
  have HK : Hid (Calls Try.prog 99 #[.map (some mb)] w fun e w' => e = .returned (.func (.func 105) #[] #[.pointer (some ⟨w.heap.size, 0, none⟩)]) ∧ w' = w.alloc (.cells #[.map (some mb)] 96)) := callsIn_wide.1 (Try.maps_Keys_99 (some mb) w)
  have hs := callsIn_wide.1 (Try.slices_Sorted_keys_98_99 (H := Value) mb L.length D heldR w hown (by rw [hsz]; unfold maxLen; omega) (by rw [hsz]; omega))
  obtain ⟨es, he, hks⟩ := hown.keysOf
  have htidy := hown.tidy strK15
  have hperm : (nmL L).Perm (Go.strKeys D) := by
    subst he
    obtain ⟨es2, e2, hp⟩ := htidy
    cases e2
    refine Go.perm_strKeys hp (fun q hq => ?_) (nmL_nodup h.rise) fun x => ?_
    · obtain ⟨key, hkey⟩ := hks q hq
      obtain ⟨y, _, e, _⟩ := Go.Maps.keyOf_str Try.underlying9 hkey
      exact ⟨y, e⟩
    · rw [← fsf_has (V := V)]
      have hk : WideAt.IsKeyLit (.string x) := trivial
      constructor
      · rintro ⟨v, hv⟩; exact ((hD _ hk).2 v hv).1
      · intro hh
        cases hf : fsf L V (.string x) with
        | none => rw [(hD _ hk).1 hf] at hh; cases hh
        | some v => exact ⟨v, rfl⟩
  have HS : Hid (Calls Try.prog 98 #[.func (.func 105) #[] #[.pointer (some ⟨w.heap.size, 0, none⟩)]] (w.alloc (.cells #[.map (some mb)] 96)) fun e w' => ∃ v, e = .returned v ∧ w'.ownsRow w.heap.size 9 1 v L.length (nmC L) ∧ Below w.heap.size w w') := by
    refine hs.mono ?_
    rintro e w' ⟨v, ss, rfl, h1, h2, _, h3⟩
    have e1 : ss.mergeSort Go.leB = nmL L := by rw [Go.mergeSort_of_perm (h1.trans hperm.symm), nmL_sorted h.rise]
    have e2 : ss.length = L.length := by rw [h1.length_eq, ← hperm.length_eq]; simp [nmL]
    refine ⟨v, rfl, ?_, ?_⟩
    · have h4 : (ss.mergeSort fun x y => decide (x ≤ y)) = nmL L := e1
      rw [h4, nm_enc, e2] at h2
      exact ownF_base h2 (by rw [World.size_alloc]; omega)
    · exact blFl ((Below.refl _ _).alloc (Nat.le_refl _) _) h3 (by rw [World.size_alloc]; omega)
  clear h hown hs hD hks htidy hperm he hsz
  go_enter Try.func86, Try.ntmps86
  go_wp2_with fail
  refine HK.out.mono ?_
  rintro e w1 ⟨rfl, rfl⟩
  go_wp2_with fail
  refine HS.out.mono ?_
  rintro e w2 ⟨v, rfl, h1, h2⟩
  have H1 := hidF h1
  have H2 := hidF h2
  clear h1 h2
  go_wp2_with fail
  go_ret
  exact ⟨⟨_, rfl, H1.out⟩, H2.out⟩
theorem rowB.str {W : World} {lo : Nat} {v : Value} {d : ByteArray} (h : rowB W lo v d) : (convert 22 9 v).run Try.prog W = .ok (.string d) W := by
  obtain ⟨hl, ⟨h0, hn⟩ | ⟨g, cap, cur, h1, h2, h3, h4, h5, h6, h7⟩⟩ := h
  · subst h0
    have e : d = ⟨#[]⟩ := ByteArray.ext (Array.eq_empty_of_size_eq_zero hn)
    subst e
    exact run_convert_bytes_nil W 22 5 Try.underlying22 Try.underlying5 0 0 9 Try.underlying9
  · subst h1
    have hb := run_convert_bytes_back (P := Try.prog) W 22 9 5 ⟨g, 0, none⟩ cap d.data.toList Try.underlying22 Try.underlying5 Try.underlying9 (fun j hj => by
      have ea : (⟨g, 0, none⟩ : Addr).add j = ⟨g, j, none⟩ := by
        unfold Addr.add
        by_cases h0 : j = 0
        · subst h0; simp
        · simp [h0]
      rw [ea, cell_of_row _ _ _ _ _ _ h3]
      have hx : (Lib.strCells d)[j]? = some (.int .u8 (d.data.toList[j].toNat : Int)) := by
        unfold Lib.strCells
        rw [List.getElem?_map, List.getElem?_eq_getElem hj]; rfl
      rw [← h7, List.getElem?_take] at hx
      split at hx
      · simpa using hx
      · cases hx)
    have e1 : d.data.toList.length = d.size := rfl
    have e2 : (⟨d.data.toList.toArray⟩ : ByteArray) = d := key_back d
    rw [e1, e2] at hb
    exact hb
set_option maxRecDepth 100000 in
set_option maxHeartbeats 1500000 in
theorem list15_any {lo p mb n : Nat} {L : List FlI} {V : ByteArray → Value} (w : World) (h : FsW w lo p mb L V n) (hl : L.length ≤ 1000000) (hsz : ∀ f ∈ L, f.a.size ≤ 1500000) :
    Calls Try.prog 51 #[.pointer (some ⟨p, 0, none⟩)] w (FlAns w L) := by
  have HN : Hid (Calls Try.prog 86 #[.pointer (some ⟨p, 0, none⟩)] w fun e w' => (∃ v, e = .returned v ∧ w'.ownsRow w.heap.size 9 1 v L.length (nmC L)) ∧ Below w.heap.size w w') := names15_any w h hl
  have HF := hidF h
  have HSZ := hidF hsz
  have HLK : Hid (∀ i w', i < L.length → Below w.heap.size w w' → (w'.cell? ⟨p, 0, none⟩ = some (.map (some mb))) ∧ ((Instr.lookup 96 (.map (some mb)) (.string (flF L i).a) false).run Try.prog w' = .ok (V (flF L i).a) w') ∧ (convert 22 9 (V (flF L i).a)).run Try.prog w' = .ok (.string (flF L i).d) w') := fun i w' hi hb => by
    have hw := h.under hb
    have hm : flF L i ∈ L := by rw [flF_at hi]; exact List.getElem_mem hi
    have h1 := hw.look_yes (hsz _ hm) (fdF_of h.rise hm)
    exact ⟨cell_of_row _ _ 0 _ _ _ hw.box, h1.1.2, h1.2.str⟩
  obtain ⟨i0, hi0, hz0, hz1, hz2⟩ := info_parts Try.infFl
  clear h hsz
  go_enter Try.func51, Try.ntmps51
  go_wp2_with fail
  refine HN.out.mono ?_
  rintro e w1 ⟨⟨v, rfl, hv⟩, hb1⟩
  obtain ⟨a, c, rfl, hrow⟩ : ∃ a c, v = .slice a L.length c ∧ (∀ i w', i < L.length → Below w1.heap.size w1 w' → ∃ g, a = some ⟨g, 0, none⟩ ∧ w'.cell? ⟨g, i, none⟩ = some (.string (flF L i).a)) := by
    obtain ⟨_, ⟨h0, hn⟩ | ⟨g, cap, cur, h1, h2, h3, _, _, _, h7⟩⟩ := hv
    · exact ⟨none, 0, by rw [h0, hn], fun i w' hi => absurd hi (by omega)⟩
    · refine ⟨_, cap, h1, fun i w' hi hb => ⟨g, rfl, ?_⟩⟩
      rw [cell_of_row _ _ _ _ _ _ ((hb.block g (Array.getElem?_eq_some_iff.1 h3).1).trans h3)]
      have hx : (nmC L)[i]? = some (.string (flF L i).a) := by
        unfold nmC
        rw [List.getElem?_map, List.getElem?_eq_getElem hi, flF_at hi]; rfl
      rw [← h7, List.getElem?_take] at hx
      split at hx
      · simpa using hx
      · cases hx
  have HRW := hidF hrow
  have HS0 : Hid (FlW w1.heap.size w1 w1 (.slice none 0 0) (L.take 0)) := FlW.none w1
  have HB1 := hidF hb1
  have hlen : (L.length : Int) ≤ 1000000 := by omega
  clear hrow hv hb1 HN HF
  go_wp2_with fail
  go_loopw [3, 9] (fun x y wr => ∃ (i : Nat) (u : Value), i ≤ L.length ∧ x = u ∧ y = .int .i64 (i : Int) ∧ Hid (FlW w1.heap.size w1 wr u (L.take i))) (fun _ y _ => L.length - (intFl y).toNat)
  case atStart => exact ⟨0, _, by omega, rfl, rfl, HS0⟩
  case round =>
    clear HS0
    rename World => W0
    obtain ⟨i, u, hi, rfl, rfl, HT⟩ := hrel
    by_cases hlt : i < L.length
    · have hltI : (i : Int) < (L.length : Int) := by omega
      obtain ⟨g, rfl, x0⟩ := HRW.out i _ hlt HT.out.bel
      obtain ⟨c0, hlk, hcv⟩ := HLK.out i _ hlt (blFl HB1.out HT.out.bel HB1.out.size)
      have HTS : Hid (L.take (i + 1) = L.take i ++ [flF L i]) := take_snoc hlt
      have hm9 : (L.take i).length ≤ 1000000 := by rw [List.length_take]; omega
      have hs9 := HT.out.bel.size
      have HIN := hidF hlt
      generalize flF L i = f at x0 hlk hcv HTS
      obtain ⟨fa, fd⟩ := f
      simp only at x0 hlk hcv
      generalize L.take i = M at HT HTS hm9
      generalize hva : V fa = va at hlk hcv
      clear hva
      go_wp2_with (at_builtin; (refine wpList_append_own _ rfl _ _ 24 rfl w1.heap.size 88 i0 _ 2 32 Try.underlying24 hi0 hz0 hz1 hz2 rfl (by decide) _ _ _ rfl (World.ownsRow.alloc HT.out.own _) ⟨W0.heap.size, 0, none⟩ 1 1 [.string fa, .string fd] rfl rfl (cell_twoF rfl) (two_fl _ _) ?k3 ?k4 ?k5 ?_))
      case k3 => unfold maxLen; omega
      case k4 => omega
      case k5 => first | omega | (rw [World.size_alloc]; omega) | (simp; omega)
      intro v6 w6 hown' hgrow _
      have H6 := hidF (HT.out.one (a := fa) (d := fd) hown' hgrow)
      clear hown' hgrow x0 c0 hlk hcv HT hm9 hs9
      go_wp2_with fail
      go_roundw
      case rel => exact ⟨i + 1, _, by have := HIN.out; omega, rfl, by go_num, by rw [HTS.out]; exact H6⟩
      case measure => simp [intFl]; have := HIN.out; omega
    · have hie : i = L.length := by omega
      have hltI : ¬ (i : Int) < (L.length : Int) := by omega
      have HM : Hid (L.take i = L) := by show _ = _; rw [hie, List.take_length]
      clear hie
      go_wp2_with fail
      go_ret
      exact ⟨_, rfl, by rw [← HM.out]; exact HT.out.from HB1.out⟩
end Go.Proofs.Ytanlggglbpibfaa
