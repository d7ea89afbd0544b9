/- Texts that the laws of this seat stand on, part 24. -/
import Derived.Test.YtflnmkgpmjefhaaPk19
import Derived.Lib.SliceRun
import Derived.Test.YtflnmkgpmjefhaaPk23
import Derived.Test.YtflnmkgpmjefhaaPk3
import Derived.Test.YtflnmkgpmjefhaaPk1
import Derived.Deep.RegionWith
import Derived.IntWalk
/- Contracts of around, both Clones, Edges, Degree, Near, Total; of nil too. -/
namespace Go.Proofs.Ytflnmkgpmjefhaa
open Go.RowKit Go.ChangeShapes EdPure NtPure NumPure
def degV (n : Nat) (M : List Ed) (v : Int) : Int := if 0 ≤ v ∧ v < n then degE M v else 0
def nearV (n : Nat) (M : List Ed) (v : Int) : List Int := if 0 ≤ v ∧ v < n then nearE M v else []
/-- Where the ends are there, nothing is told of others. -/
theorem degV_eq {n : Nat} {M : List Ed} (h : GoodN n M) (v : Int) : degV n M v = degE M v := by
  unfold degV
  split
  · rfl
  · next hv =>
    have h1 := h.1.2
    have h2 := h.2.1
    clear h
    symm
    induction M with
    | nil => rfl
    | cons e r ih =>
      rw [deg_cons, ih (fun x hx => h1 x (by simp [hx])) (fun x hx => h2 x (by simp [hx]))]
      have := (h1 e (by simp)).1
      have := h2 e (by simp)
      unfold ofE atB
      simp only [decide_eq_true_eq]
      rw [if_neg (by omega)]
      rfl
theorem nearV_eq {n : Nat} {M : List Ed} (h : GoodN n M) (v : Int) : nearV n M v = nearE M v := by
  unfold nearV
  split
  · rfl
  · next hv =>
    symm
    unfold nearE
    rw [List.map_eq_nil_iff, List.filter_eq_nil_iff]
    intro e he
    have := (h.1.2 e he).1
    have := h.2.1 e he
    unfold atB
    simp only [decide_eq_true_eq]
    omega
def StarOut (d : Int) (l : List Int) (w : World) (e : Ending) (w' : World) : Prop :=
  Below w.heap.size w w' ∧ ∃ q c, e = .returned (.agg #[.int .i64 d, .slice q l.length c]) ∧ ReadsL encZ w'.heap.size w' q l
theorem reads_newsI {α : Type} {enc : α → Value} {N : Nat} {w : World} {ad : Addr} {l : List α} (h : ReadsL enc N w (some ad) l) : ∀ j u, (l.map enc)[j]? = some u → w.cell? (ad.add j) = some u := by
  intro j u hj
  rcases h with h | ⟨b, off, e, -, hc⟩
  · subst h; simp at hj
  · cases e
    obtain ⟨hjl, rfl⟩ := List.getElem?_eq_some_iff.1 hj
    rw [List.getElem_map, addr_add]
    exact hc j (by simpa using hjl)
theorem flat_three {l : List Ed} {j : Nat} {u : Value} (hj : (flatE l)[j]? = some u) : ∃ k r, ∃ hk : k < l.length, (j = k * 3 + r) ∧ ((r = 0 ∧ u = .int .i64 l[k].1) ∨ (r = 1 ∧ u = .int .i64 l[k].2.1) ∨ (r = 2 ∧ u = .int .i64 l[k].2.2)) := by
  have hlt := (List.getElem?_eq_some_iff.1 hj).1
  rw [flatE_len] at hlt
  have hk : j / 3 < l.length := by omega
  obtain ⟨e0, e1, e2⟩ := flatE_at hk
  have hr : j % 3 = 0 ∨ j % 3 = 1 ∨ j % 3 = 2 := by omega
  refine ⟨j / 3, j % 3, hk, by omega, ?_⟩
  rcases hr with h | h | h
  · refine Or.inl ⟨h, ?_⟩
    rw [show j = j / 3 * 3 by omega, e0] at hj
    exact (Option.some.inj hj).symm
  · refine Or.inr (Or.inl ⟨h, ?_⟩)
    rw [show j = j / 3 * 3 + 1 by omega, e1] at hj
    exact (Option.some.inj hj).symm
  · refine Or.inr (Or.inr ⟨h, ?_⟩)
    rw [show j = j / 3 * 3 + 2 by omega, e2] at hj
    exact (Option.some.inj hj).symm
theorem reads_newsE {N : Nat} {w : World} {ad : Addr} {l : List Ed} (h : ReadsE N w (some ad) l) : ∀ j u, (flatE l)[j]? = some u → w.cell? (ad.add j) = some u := by
  intro j u hj
  rcases h with h | ⟨b, off, e, -, hc⟩
  · subst h; simp [flatE] at hj
  · cases e
    obtain ⟨k, r, hk, rfl, hu⟩ := flat_three hj
    obtain ⟨c0, c1, c2⟩ := hc k hk
    rw [addr_add]
    rcases hu with ⟨rfl, rfl⟩ | ⟨rfl, rfl⟩ | ⟨rfl, rfl⟩
    · rw [Nat.add_zero]; exact c0
    · rw [← Nat.add_assoc]; exact c1
    · rw [← Nat.add_assoc]; exact c2
theorem ones_flat {l : List Ed} : ∀ u ∈ flatE l, u.oneCell' = true := by
  intro u hu
  unfold flatE at hu
  obtain ⟨e, -, he⟩ := List.mem_flatMap.1 hu
  simp only [cellE, List.mem_cons, List.not_mem_nil, or_false] at he
  rcases he with rfl | rfl | rfl <;> rfl
def IntsOut (l : List Int) (w : World) (e : Ending) (w' : World) : Prop := Below w.heap.size w w' ∧ ∃ q c, e = .returned (.slice q l.length c) ∧ ReadsL encZ w'.heap.size w' q l
def EdsOut (l : List Ed) (w : World) (e : Ending) (w' : World) : Prop := Below w.heap.size w w' ∧ ∃ q c, e = .returned (.slice q l.length c) ∧ ReadsE w'.heap.size w' q l
set_option maxRecDepth 100000 in
theorem cloneE_any (a : Option Addr) (c : Nat) (l : List Ed) (hl : l.length ≤ 1048576) (w : World) (h : ReadsE w.heap.size w a l) :
    Calls Try.prog 28 #[.slice a l.length c] w fun e w' => EdsOut l w e w' := by
  have HR := Lib.hid h
  clear h
  have q22 : ∀ (w : World) (a : Option Addr) (n c n' c' : Nat), (binOp .eql 73 (.slice a n c) (.slice none n' c')).run Try.prog w = .ok (.bool a.isNone) w := fun w a n c n' c' => Lib.run_eql_slice_nil w _ _ a n c n' c' Try.underlying73
  cases a with
  | none =>
    have e : l = [] := by
      rcases HR.out with h | ⟨b, off, h, -⟩
      · exact h
      · cases h
    subst e
    go_enter Try.func28, Try.ntmps28
    go_wp2
    go_ret
    exact ⟨Below.refl _ _, none, 0, rfl, Or.inl rfl⟩
  | some ad =>
    obtain ⟨i1, hi1, hi2, hi3, hi4⟩ := info_parts (show (Try.prog.info? 27).map (fun i => (i.zero, i.size, i.bytes)) = some (some (.agg #[.int .i64 0, .int .i64 0, .int .i64 0]), 3, 24) by kernel_rfl)
    go_enter Try.func28, Try.ntmps28
    go_wp2_with (first
      | (at_builtin; refine wpList_append_own_at _ rfl _ _ 73 rfl w.heap.size 27 i1 (.agg #[.int .i64 0, .int .i64 0, .int .i64 0]) 3 24 Try.underlying73 hi1 hi2 hi3 hi4 rfl (by decide) (.slice (some ⟨w.heap.size, 0, none⟩) 0 0) 0 [] rfl (World.ownsRow_made w #[] 0 (Nat.le_refl _) (Nat.zero_le _) (by simp)) ad l.length c (flatE l) rfl (flatE_len l) (fun j u hj => reads_newsE (HR.out.over ((Below.refl w.heap.size w).alloc (Nat.le_refl _) (.cells #[] 27)) (Nat.le_refl _)) j u hj) ones_flat (by unfold maxLen; omega) (by omega) (by simp) ?_; intro v' w6 hown6 hg6 _ _
         have hb6 : Below w.heap.size w w6 := ((Below.refl w.heap.size w).alloc (Nat.le_refl _) (.cells #[] 27)).grown hg6 (by simp) (by intro k hk; simp [Value.ownBlock] at hk; omega)
         rw [Nat.zero_add, List.nil_append] at hown6
         have HW := Lib.hid (And.intro hown6 hb6); clear hown6 hg6 hb6)
      | go_in)
    go_ret
    obtain ⟨p, cap, e, hr, -⟩ := owns_readsE rfl HW.out.1
    exact ⟨HW.out.2, p, cap, by rw [e]; rfl, hr⟩
set_option maxRecDepth 100000 in
theorem edges_any (p : Option Addr) (n : Nat) (M : List Ed) (hl : M.length ≤ 1048576) (w : World) (h : NetAt p n M w) :
    Calls Try.prog 15 #[.pointer p] w fun e w' => EdsOut M w e w' := by
  have HN := Lib.hid h
  clear h
  go_enter Try.func15, Try.ntmps15
  go_wp2_with fail
  refine (nparts_any p n M w HN.out).mono ?_
  rintro e w1 ⟨hb, pv, cv, pe, ce, rfl, hr, -⟩
  have HB := Lib.hid hb
  have HR := Lib.hid hr
  clear hb hr HN
  go_wp2_with (first | (go_at_call 28; refine (cloneE_any pe ce M hl w1 HR.out).mono ?_; rintro e w2 ⟨hb2, q, c2, rfl, hr2⟩; have HB2 := Lib.hid (HB.out.trans (hb2.mono HB.out.size)); have HR2 := Lib.hid hr2; clear hb2 hr2))
  go_ret
  exact ⟨HB2.out, q, c2, rfl, HR2.out⟩
theorem nearV_len (n : Nat) (M : List Ed) (v : Int) : (nearV n M v).length ≤ M.length := by
  unfold nearV
  split
  · exact near_len M v
  · exact Nat.zero_le _
theorem sum_all {M : List Ed} (hn : NonNeg M) (hb : allW M ≤ 9223372036854775807) : sumS (wts M) = (allW M, true) := by
  have key : ∀ k, k ≤ M.length → sumS ((wts M).take k) = (allW (M.take k), true) := by
    intro k
    induction k with
    | zero => intro _; rfl
    | succ k ih =>
      intro hk
      have hi := ih (by omega)
      have hk' : k < M.length := by omega
      have h1 : allW (M.take (k + 1)) = allW (M.take k) + M[k].2.2 := by
        rw [take_snoc _ _ hk', allW_append]; simp [allW]
      have h2 := allW_pos (l := M.take k) (fun e he => hn e (List.mem_of_mem_take he))
      have h3 : allW M = allW (M.take (k + 1)) + allW (M.drop (k + 1)) := by rw [← allW_append, List.take_append_drop]
      have h4 := allW_pos (l := M.drop (k + 1)) (fun e he => hn e (List.mem_of_mem_drop he))
      have h5 := hn M[k] (List.getElem_mem hk')
      have hin : In (allW (M.take (k + 1))) := ⟨by omega, by omega⟩
      rw [sumS_take _ _ (by rw [wts_len]; exact hk'), hi, step_ok _ _ rfl, wts_at hk', ← h1]
      rw [cut_in hin, (fits_iff _).2 hin]
  have := key M.length (Nat.le_refl _)
  rwa [List.take_length, ← wts_len M, List.take_length] at this
set_option maxRecDepth 100000 in
theorem totalN_any (p : Option Addr) (n : Nat) (hn : n ≤ 4096) (M : List Ed) (hM : GoodN n M) (hl : M.length ≤ 1048576) (w : World) (h : NetAt p n M w) :
    Calls Try.prog 17 #[.pointer p] w fun e w' => e = .returned (.int .i64 (allW M)) ∧ Below w.heap.size w w' := by
  have HN := Lib.hid h
  have hin : InL M := fun e he => by
    have h1 := (hM.1.2 e he).1
    have h2 := hM.2.1 e he
    have h3 := mem_allW hM.non he
    have h4 := hM.2.2
    exact ⟨⟨by omega, by omega⟩, ⟨by omega, by omega⟩, ⟨by omega, by omega⟩⟩
  have HI := Lib.hid hin
  have HS : Hid (sumS (wts M) = (allW M, true)) := Lib.hid (sum_all hM.non (by have := hM.2.2; omega))
  clear h hin
  go_enter Try.func17, Try.ntmps17
  go_wp2_with fail
  refine (nparts_any p n M w HN.out).mono ?_
  rintro e w1 ⟨hb, pv, cv, pe, ce, rfl, hr, -⟩
  have HB := Lib.hid hb
  have HR := Lib.hid hr
  clear hb hr HN
  go_wp2_with fail
  refine (total_any pe ce M hl HI.out w1 HR.out).mono ?_
  rintro e w2 ⟨rfl, hb2⟩
  rw [HS.out]
  have HB2 := Lib.hid (HB.out.trans (hb2.mono HB.out.size))
  clear hb2
  go_wp2
  go_ret
  exact ⟨rfl, HB2.out⟩
end Go.Proofs.Ytflnmkgpmjefhaa
/- The law's awake (layer 17). -/
namespace Go.Proofs.Ytflnmkgpmjefhaa.Gr
open Go.RowKit Go.ChangeShapes EdPure DecPure WordPure GrPure NtPure
set_option maxRecDepth 100000 in
set_option maxHeartbeats 800000 in
theorem awake_any (w : World) : Calls Try.prog 6 #[] w fun e w' => e = .returned (.bool true) ∧ Below w.heap.size w w' := by
  have HM := Lib.hid (progRead_any ⟨awA.toArray⟩ (by decide) w)
  have HM2 : Hid (∀ w, Calls Try.prog 11 #[.string ⟨awB.toArray⟩] w fun e w' => OutR awB w e w') := Lib.hid fun w => progRead_any ⟨awB.toArray⟩ (by decide) w
  go_enter Try.func6, Try.ntmps6
  go_wp2_with fail
  refine HM.out.mono ?_
  rintro e w1 ⟨hb1, p, N, M, rfl, hn, ⟨hN4, hM4, hg⟩, ⟨hne, -⟩ | ⟨-, ⟨g, rfl⟩, h1, h2⟩⟩
  · exact absurd (congrArg (·.1) aw_A) hne
  have h0 : (readR awA).1 = 0 ∧ (readR awA).2.1 = 0 := by rw [aw_A]; exact ⟨rfl, rfl⟩
  have h0' : (readR ((⟨awA.toArray⟩ : ByteArray)).data.toList).1 = 0 := h0.1
  have h0'' : (readR ((⟨awA.toArray⟩ : ByteArray)).data.toList).2.1 = 0 := h0.2
  rw [h0', h0'']
  obtain rfl : N = 2 := by
    have e : (readR awA).2.2.1 = 2 := by rw [aw_A]
    have h1' : (readR awA).2.2.1 = N := h1
    omega
  obtain rfl : M = [(0, 1, 7)] := by
    have h2' : mergeE (readR awA).2.2.2 = some M := h2
    rw [aw_A] at h2'
    exact (Option.some.inj (aw_M.symm.trans h2')).symm
  have HB := Lib.hid hb1
  have HG := Lib.hid hg
  have HN := Lib.hid hn
  have HA : Hid (allW [(0, 1, 7)] = 7) := Lib.hid (by decide)
  clear hb1 hg hn HM h1 h2 h0 h0' h0'' hM4
  go_wp2_with fail
  refine (HM2.out w1).mono ?_
  rintro e w2 ⟨hb2, p2, -, -, rfl, -⟩
  rw [aw_B.1, aw_B.2]
  replace HB := Lib.hid (HB.out.trans (hb2.mono HB.out.size))
  replace HN := Lib.hid (HN.out.over hb2)
  clear hb2 HM2
  go_wp2_with fail
  refine (cnt_any _ 2 _ _ HN.out).mono ?_
  rintro e w3 ⟨rfl, hb3⟩
  replace HB := Lib.hid (HB.out.trans (hb3.mono HB.out.size))
  replace HN := Lib.hid (HN.out.over hb3)
  clear hb3
  go_wp2_with fail
  refine (totalN_any _ 2 (by omega) _ HG.out (by simp) _ HN.out).mono ?_
  rintro e w4 ⟨rfl, hb4⟩
  rw [HA.out]
  replace HB := Lib.hid (HB.out.trans (hb4.mono HB.out.size))
  clear hb4
  go_wp2
  go_ret
  exact ⟨rfl, HB.out⟩
end Go.Proofs.Ytflnmkgpmjefhaa.Gr
/- Contracts for the document's own answers on one number's digits (straitref06), beside no function of dec. -/
namespace Go.Proofs.Ytflnmkgpmjefhaa.R6
open Go.RowKit Go.ChangeShapes DecPure
/-- A slice of one byte as a text. -/
theorem conv_one (n : Int) (w : World) (g : Nat) (hc : w.cell? (⟨g, 0, none⟩ : Addr) = some (.int .u8 n)) :
    (convert 133 9 (.slice (some ⟨g, 0, none⟩) 1 1)).run Try.prog w = .ok (.string ⟨#[UInt8.ofNat n.toNat]⟩) w := by
  rw [run_convert_bytes_string w _ _ _ _ _ _ Try.underlying133 Try.underlying5 Try.underlying9]
  have h := run_bytesToString (P := Try.prog) w ⟨g, 0, none⟩ 1 1 [n] (run_loadCells_list w ⟨g, 0, none⟩ [.int .u8 n] (fun j v hj => by
    match j, hj with
    | 0, hj => simp at hj; subst hj; simpa [Addr.add] using hc))
  rw [h]
  rfl
set_option maxHeartbeats 1000000 in
theorem digits_any (n : Nat) : n < 18446744073709551616 → ∀ w : World,
    Calls Try.prog 61 #[.int .u64 (n : Int)] w fun e w' => e = .returned (.string ⟨(Lib.decDigits n).toArray⟩) ∧ Below w.heap.size w w' := by
  induction n using Nat.strongRecOn with
  | _ n ih =>
    intro hn w
    by_cases h : n < 10
    · have HE := Lib.hid (dec_small h)
      clear ih
      have kc := conv_one (48 + (n : Int))
      go_enter Try.func61, Try.ntmps61
      go_wp2
      go_ret
      refine ⟨?_, (Below.refl _ _).alloc (Nat.le_refl _) _⟩
      rw [HE.out]
      rfl
    · have HE := Lib.hid (dec_big h)
      have HI := Lib.hid (ih (n / 10) (by omega) (by omega))
      clear ih
      have hm : n % 10 < 10 := by omega
      have e1 : IntKind.u64.wrap ((n : Int) / 10) = ((n / 10 : Nat) : Int) := by rw [IntWalk.u64_in _ (by omega)]; omega
      have e2 : (n : Int).tmod 10 = ((n % 10 : Nat) : Int) := by rw [Int.tmod_eq_emod_of_nonneg (by omega)]; omega
      have hl : (Lib.decDigits (n / 10)).length ≤ 20 := by rw [Lib.decDigits_length]; exact Lib.nDigits_le20 _ (by omega)
      have hl2 : decide (9223372036854775807 < (Lib.decDigits (n / 10)).length + 1) = false := decide_eq_false (by omega)
      generalize n / 10 = q at *
      generalize Lib.decDigits q = D at *
      generalize n % 10 = m at *
      have e3 : IntKind.u64.wrap (48 + (m : Int)) = 48 + (m : Int) := IntWalk.u64_in _ (by omega)
      have e4 : IntKind.u8.wrap (48 + (m : Int)) = 48 + (m : Int) := IntWalk.u8_in _ (by omega)
      have kc : ∀ (w : World) (g : Nat), w.cell? (⟨g, 0, none⟩ : Addr) = some (.int .u8 (48 + (m : Int))) → (convert 133 9 (.slice (some ⟨g, 0, none⟩) 1 1)).run Try.prog w = .ok (.string ⟨#[UInt8.ofNat (48 + m)]⟩) w :=
        fun w g h => by rw [conv_one _ w g h]; rfl
      have HC := Lib.hid (ByteArray.mk_append_mk D [UInt8.ofNat (48 + m)])
      generalize UInt8.ofNat (48 + m) = c at *
      go_enter Try.func61, Try.ntmps61
      go_wp2
      go_region_with (first | (go_at_call 61; refine (HI.out _).mono ?_; rintro e w1 ⟨rfl, hb1⟩; have HB1 := Lib.hid hb1; obtain ⟨hc1, hf1⟩ := bcell hb1; have hz1 := hb1.size; clear hb1))
      all_goals go_wp2
      all_goals go_ret
      all_goals refine ⟨by rw [HE.out]; exact congrArg (fun b => Ending.returned (.string b)) HC.out, ?_⟩
      all_goals first
        | exact ((Below.drew (Below.refl _ w)).trans HB1.out).alloc HB1.out.size _
        | exact (Below.drew ((Below.refl _ w).alloc (Nat.le_refl _) _)).trans (HB1.out.mono (by simp))
        | exact (((Below.refl _ w).alloc (Nat.le_refl _) _)).trans (HB1.out.mono (by simp))
set_option maxHeartbeats 400000 in
theorem refPrint_any (n : Int) (h0 : -9223372036854775808 ≤ n) (h1 : n ≤ 9223372036854775807) (w : World) :
    Calls Try.prog 51 #[.int .i64 n] w fun e w' => e = .returned (.string ⟨(Lib.itoa n).toArray⟩) ∧ Below w.heap.size w w' := by
  by_cases hn : n < 0
  · obtain ⟨u, hu⟩ : ∃ u : Nat, n = -(u : Int) := ⟨n.natAbs, by omega⟩
    have HI := Lib.hid (digits_any u (by omega) w)
    have HE : Hid (Lib.itoa n = 45 :: Lib.decDigits u) := Lib.hid (by rw [hu]; exact Lib.itoa_neg u (by omega))
    have hl : (Lib.decDigits u).length ≤ 20 := by rw [Lib.decDigits_length]; exact Lib.nDigits_le20 _ (by omega)
    have hl2 : decide (9223372036854775807 < 1 + (Lib.decDigits u).length) = false := decide_eq_false (by omega)
    generalize Lib.decDigits u = D at *
    have e1 : -(n + 1) + 1 = (u : Int) := by omega
    have HC := Lib.hid (ByteArray.mk_append_mk [45] D)
    have HN := Lib.hid hu
    clear hu
    go_enter Try.func51, Try.ntmps51
    go_wp2_with fail
    refine HI.out.mono ?_
    rintro e w1 ⟨rfl, hb1⟩
    have HB := Lib.hid hb1
    clear hb1 HI
    go_wp2
    go_ret
    refine ⟨?_, HB.out⟩
    rw [HE.out]
    exact congrArg (fun b => Ending.returned (.string b)) HC.out
  · obtain ⟨u, rfl⟩ : ∃ u : Nat, n = (u : Int) := ⟨n.toNat, by omega⟩
    have HI := Lib.hid (digits_any u (by omega) w)
    have HE : Hid (Lib.itoa (u : Int) = Lib.decDigits u) := Lib.hid (Lib.itoa_nonneg u)
    go_enter Try.func51, Try.ntmps51
    go_wp2_with fail
    refine HI.out.mono ?_
    rintro e w1 ⟨rfl, hb1⟩
    have HB := Lib.hid hb1
    clear hb1 HI
    go_wp2
    go_ret
    refine ⟨?_, HB.out⟩
    rw [HE.out]
    rfl
end Go.Proofs.Ytflnmkgpmjefhaa.R6
