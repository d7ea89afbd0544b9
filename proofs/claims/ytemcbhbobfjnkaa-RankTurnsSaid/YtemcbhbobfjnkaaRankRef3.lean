/- The document's Of and Distinct. -/
import Derived.Test.YtemcbhbobfjnkaaRankRefBy
import Derived.Test.YtemcbhbobfjnkaaRankMid
namespace Go.Proofs.Ytemcbhbobfjnkaa
open Go.RowKit Go.ChangeShapes RankPure
theorem refOf_any (a : Option Addr) (c : Nat) (ks : List Int) (hk : ks.length ≤ 1000) (w : World) (hR : ReadsL encZ w.heap.size w a ks) :
    Calls Try.prog 12 #[.slice a ks.length c] w fun e w' => (∃ g, e = .returned (.slice (some ⟨g, 0, none⟩) ks.length ks.length) ∧ ReadsL encZ w'.heap.size w' (some ⟨g, 0, none⟩) (invL (zs (byL ks)))) ∧ Below w.heap.size w w' := by
  have HB := Lib.hid (refBy_any a c ks hk w hR)
  clear hR
  go_enter Try.func12, Try.ntmps12
  go_wp2_with fail
  refine HB.out.mono ?_
  rintro e w1 ⟨⟨q, cap, rfl, hr1⟩, hb1⟩
  have hl : (zs (byL ks)).length = ks.length := by rw [zs_len, byL_len]
  have HI := Lib.hid (refInverse_any q cap (zs (byL ks)) (byZ_ord ks) (by omega) w1 hr1)
  rw [hl] at HI
  have HZ := Lib.hid hb1
  clear hb1 hr1 hl
  go_wp2_with fail
  refine HI.out.mono ?_
  rintro e w2 ⟨g, rfl, hg, hb2, hr2⟩
  have H2 := Lib.hid (And.intro hb2 hr2)
  clear hg hb2 hr2
  go_wp2
  go_ret
  exact ⟨⟨g, rfl, H2.out.2⟩, HZ.out.trans (H2.out.1.mono HZ.out.size)⟩
/-- The unlike ones among the first k. -/
def upD (ks : List Int) (k : Nat) : List Int := Lib.compactUpTo (sortK ks).toArray k
theorem upD_zero (ks : List Int) : upD ks 0 = [] := rfl
theorem upD_len (ks : List Int) (k : Nat) : (upD ks k).length ≤ k := by
  unfold upD Lib.compactUpTo
  rw [List.length_map]
  refine Nat.le_trans (List.length_filter_le _ _) ?_
  rw [List.length_range]
  exact Nat.le_refl _
theorem upD_whole (ks : List Int) : upD ks ks.length = distL ks := by unfold upD distL; rw [List.size_toArray, sortK_len]
theorem upD_yes {ks : List Int} {k : Nat} (hk : k < ks.length) (h : k = 0 ∨ (sortK ks).getD k 0 ≠ (sortK ks).getD (k - 1) 0) : upD ks (k + 1) = upD ks k ++ [(sortK ks).getD k 0] := by
  have hk' : k < (sortK ks).length := by rw [sortK_len]; exact hk
  have hk1 : k - 1 < (sortK ks).length := by omega
  unfold upD
  rw [Lib.compactUpTo_succ, get_bang hk', getD_at hk']
  have : Lib.keeps (sortK ks).toArray k = true := by
    unfold Lib.keeps
    rw [get_bang hk', get_bang hk1]
    rw [getD_at hk', getD_at hk1] at h
    exact decide_eq_true h
  rw [this]
  rfl
theorem upD_no {ks : List Int} {k : Nat} (hk : k < ks.length) (h0 : k ≠ 0) (h : (sortK ks).getD k 0 = (sortK ks).getD (k - 1) 0) : upD ks (k + 1) = upD ks k := by
  have hk' : k < (sortK ks).length := by rw [sortK_len]; exact hk
  have hk1 : k - 1 < (sortK ks).length := by omega
  unfold upD
  rw [Lib.compactUpTo_succ]
  have : Lib.keeps (sortK ks).toArray k = false := by
    unfold Lib.keeps
    rw [get_bang hk', get_bang hk1]
    rw [getD_at hk', getD_at hk1] at h
    exact decide_eq_false (fun hh => by rcases hh with hh | hh; exact h0 hh; exact hh h)
  rw [this]
  simp
theorem sortK_place {ks : List Int} {k : Nat} (hk : k < ks.length) : (sortK ks).getD k 0 = ks[(byL ks)[k]'(by rw [byL_len]; exact hk)]'(byL_lt ks (List.getElem_mem _)) := by
  rw [getD_at (by rw [sortK_len]; exact hk), sortK_at ks hk, getD_at]
theorem zs_at {p : List Nat} {k : Nat} (hk : k < p.length) : (zs p)[k]'(by rw [zs_len]; exact hk) = (p[k] : Int) := by unfold zs; simp
set_option maxHeartbeats 2000000 in
theorem refDistinct_any (a : Option Addr) (c : Nat) (ks : List Int) (hk : ks.length ≤ 1000) (w : World) (hR : ReadsL encZ w.heap.size w a ks) :
    Calls Try.prog 15 #[.slice a ks.length c] w fun e w' => (∃ q cap, e = .returned (.slice q (distL ks).length cap) ∧ ReadsL encZ w'.heap.size w' q (distL ks)) ∧ Below w.heap.size w w' := by
  have HB := Lib.hid (refBy_any a c ks hk w hR)
  have HL := Lib.hid hR
  obtain ⟨i0, hi, hz0, hz1, hz2⟩ := info_of info_key
  clear hR
  go_enter Try.func15, Try.ntmps15
  go_wp2_with fail
  refine HB.out.mono ?_
  rintro e w0 ⟨⟨q, cap, rfl, hr1⟩, hb1⟩
  have HS : Hid (GrowRel encZ 2 w0 (upD ks 0) (.slice none 0 0) w0) := Lib.hid (GrowRel.start _ _ _)
  have HP := Lib.hid hr1
  have HB1 := Lib.hid hb1
  have hs1 := hb1.size
  clear hb1 hr1
  go_wp2
  go_loopw [3, 5] (fun s i wr => ∃ (k : Nat) (v : Value), k ≤ ks.length ∧ i = .int .i64 k ∧ v = s ∧ Hid (GrowRel encZ 2 w0 (upD ks k) v wr)) (fun _ i _ => ks.length - (intOf i).toNat)
  case atStart => exact ⟨0, _, Nat.zero_le _, rfl, rfl, HS⟩
  case round =>
    obtain ⟨k, v, hkn, rfl, rfl, HR⟩ := hrel
    by_cases hlt : k < ks.length
    · have hlp : (zs (byL ks)).length = ks.length := by rw [zs_len, byL_len]
      obtain ⟨b, off, rfl, hbN, d1⟩ := (HP.out.on HR.out.1).at (show k < (zs (byL ks)).length by omega)
      have hbl : (byL ks)[k]'(by rw [byL_len]; exact hlt) < ks.length := byL_lt ks (List.getElem_mem _)
      obtain ⟨b', off', rfl, hbN', d2⟩ := (HL.out.on (HB1.out.trans (HR.out.1.mono hs1))).at hbl
      have HY : Hid (k = 0 ∨ (sortK ks).getD k 0 ≠ (sortK ks).getD (k - 1) 0 → upD ks (k + 1) = upD ks k ++ [(sortK ks).getD k 0]) := Lib.hid (upD_yes hlt)
      have HNo : Hid (k ≠ 0 → (sortK ks).getD k 0 = (sortK ks).getD (k - 1) 0 → upD ks (k + 1) = upD ks k) := Lib.hid (upD_no hlt)
      have hpl := sortK_place hlt
      have hul := upD_len ks k
      have hHB := HR.out.1.size
      rw [zs_at (by rw [byL_len]; exact hlt)] at d1
      rw [← hpl] at d2
      have i1 : (k : Int) < (ks.length : Int) := by omega
      have i2 : (((byL ks)[k]'(by rw [byL_len]; exact hlt) : Nat) : Int) < (ks.length : Int) := by omega
      have hbw : b' < wr.heap.size := by omega
      have hbw2 : b < wr.heap.size := by omega
      unfold encZ at d1 d2
      clear hpl hlp
      by_cases hk0 : k = 0
      · have HT := Lib.hid (HY.out (Or.inl hk0))
        have HK0 := Lib.hid hk0
        have t : ((k : Int) == 0) = true := by simp [hk0]
        clear hk0
        generalize (sortK ks).getD k 0 = x at *
        generalize (byL ks)[k]'(by rw [byL_len]; exact hlt) = y at *
        go_wp2
        go_quiet (fail)
        have HR2 : Hid (GrowRel encZ 2 w0 (upD ks k) v (wr.drewN nq)) := Lib.hid ⟨below_drewN HR.out.1 _, HR.out.2⟩
        go_wp2_with (first
          | (at_builtin; refine wpList_append_own_at _ rfl _ _ 22 rfl w0.heap.size 2 i0 (.int .i64 0) 1 8 Try.underlying22 hi hz0 hz1 hz2 rfl (by decide) v (upD ks k).length ((upD ks k).map encZ) rfl (HR2.out.2.alloc _) ⟨wr.heap.size, 0, none⟩ 1 1 [.int .i64 x] rfl rfl (one_newsAt (by simp)) (by intro u hu; simp at hu; subst hu; rfl) (by unfold maxLen; omega) (by omega) (by simp; omega) ?_; intro v' w1 hown hgrow _ _))
        have HN : Hid (GrowRel encZ 2 w0 (upD ks (k + 1)) v' w1) := Lib.hid (by rw [HT.out]; exact HR2.out.step x hown hgrow)
        clear hown hgrow
        go_wp2
        go_roundw
        case rel => exact ⟨k + 1, v', by omega, by go_num, rfl, HN⟩
        case measure => (simp [intOf] <;> omega)
      · obtain ⟨m, rfl⟩ : ∃ m, k = m + 1 := ⟨k - 1, by omega⟩
        have hm : m < ks.length := by omega
        have hlp : (zs (byL ks)).length = ks.length := by rw [zs_len, byL_len]
        obtain ⟨b2, off2, hab, -, d3⟩ := (HP.out.on HR.out.1).at (show m < (zs (byL ks)).length by omega)
        have hbl2 : (byL ks)[m]'(by rw [byL_len]; exact hm) < ks.length := byL_lt ks (List.getElem_mem _)
        obtain ⟨b3, off3, hab2, -, d4⟩ := (HL.out.on (HB1.out.trans (HR.out.1.mono hs1))).at hbl2
        simp only [Option.some.injEq, Addr.mk.injEq, and_true] at hab hab2
        obtain ⟨rfl, rfl⟩ := hab
        obtain ⟨rfl, rfl⟩ := hab2
        rw [zs_at (by rw [byL_len]; exact hm)] at d3
        rw [← sortK_place hm] at d4
        have i3 : (((byL ks)[m]'(by rw [byL_len]; exact hm) : Nat) : Int) < (ks.length : Int) := by omega
        have i4 : (m : Int) < (ks.length : Int) := by omega
        have t : ((m : Int) + 1 == 0) = false := by
          have : ¬ (m : Int) + 1 = 0 := by omega
          simpa using this
        have i5 : (m : Int) + 1 < (ks.length : Int) := by omega
        rw [Nat.add_sub_cancel] at HY HNo
        unfold encZ at d3 d4
        clear hlp hk0
        generalize (sortK ks).getD (m + 1) 0 = x at *
        generalize (sortK ks).getD m 0 = x2 at *
        generalize (byL ks)[m + 1]'(by rw [byL_len]; exact hlt) = y at *
        generalize (byL ks)[m]'(by rw [byL_len]; exact hm) = y2 at *
        by_cases hxx : x = x2
        · have HT := Lib.hid (HNo.out (by omega) hxx)
          have t2 : (x != x2) = false := by simp [hxx]
          clear hxx
          go_wp2
          go_quiet (fail)
          go_wp2
          have HN : Hid (GrowRel encZ 2 w0 (upD ks (m + 1 + 1)) v (wr.drewN nq)) := Lib.hid (by rw [HT.out]; exact ⟨below_drewN HR.out.1 _, HR.out.2⟩)
          go_roundw
          case rel => exact ⟨m + 1 + 1, v, by omega, by go_num, rfl, HN⟩
          case measure => (simp [intOf] <;> omega)
        · have HT := Lib.hid (HY.out (Or.inr hxx))
          have t2 : (x != x2) = true := by simpa using hxx
          clear hxx
          go_wp2
          go_quiet (fail)
          have HR2 : Hid (GrowRel encZ 2 w0 (upD ks (m + 1)) v (wr.drewN nq)) := Lib.hid ⟨below_drewN HR.out.1 _, HR.out.2⟩
          go_wp2_with (first
            | (at_builtin; refine wpList_append_own_at _ rfl _ _ 22 rfl w0.heap.size 2 i0 (.int .i64 0) 1 8 Try.underlying22 hi hz0 hz1 hz2 rfl (by decide) v (upD ks (m + 1)).length ((upD ks (m + 1)).map encZ) rfl (HR2.out.2.alloc _) ⟨wr.heap.size, 0, none⟩ 1 1 [.int .i64 x] rfl rfl (one_newsAt (by simp)) (by intro u hu; simp at hu; subst hu; rfl) (by unfold maxLen; omega) (by omega) (by simp; omega) ?_; intro v' w1 hown hgrow _ _))
          have HN : Hid (GrowRel encZ 2 w0 (upD ks (m + 1 + 1)) v' w1) := Lib.hid (by rw [HT.out]; exact HR2.out.step x hown hgrow)
          clear hown hgrow
          go_wp2
          go_roundw
          case rel => exact ⟨m + 1 + 1, v', by omega, by go_num, rfl, HN⟩
          case measure => (simp [intOf] <;> omega)
    · have hke : k = ks.length := by omega
      have HF : Hid (GrowRel encZ 2 w0 (distL ks) v wr) := Lib.hid (by have := HR.out; rwa [hke, upD_whole] at this)
      go_wp2
      go_ret
      obtain ⟨q, cap, rfl, hr, -⟩ := HF.out.reads
      exact ⟨⟨q, cap, rfl, hr⟩, HB1.out.trans (HF.out.1.mono hs1)⟩
end Go.Proofs.Ytemcbhbobfjnkaa
