/- A text of a graph with bytes behind it is none, and one that is cut off is none: the line that is told is the one behind the text's, or one of its own. Conditions: none: every text, all bytes behind, every place (of longer texts the law asks only that the program reads graphs at all). -/
import Derived.Test.YtflnmkgpmjefhaaGrAwake
import Derived.Test.YtflnmkgpmjefhaaStr
import Derived.Test.YtflnmkgpmjefhaaChecked
import Derived.Test.YtflnmkgpmjefhaaRows
import Derived.WalkKit
import Derived.ProofKit
import Derived.OpenShut
import Derived.ShutString
import Derived.ChangeOld
import Derived.Below
import Derived.Carry
namespace Go.Proofs.Ytflnmkgpmjefhaa.greadEnds
open Go.ChangeShapes Go.WideShapes Go.ChangeAt Go.RowKit EdPure GrPure NtPure Gr Str
open Go.ChangeMaps (open_string shut_string)
theorem ends_to (s : ByteArray) (i : Nat) : (s.extract 0 i).data.toList = s.data.toList.take i := by
  rw [extract_mid, Nat.sub_zero, List.drop_zero]
theorem ends_cat (s t : ByteArray) : (s ++ t).data.toList = s.data.toList ++ t.data.toList := by simp
/-- Lines as they are counted: how many bytes 10 stand ahead of a place. -/
def CntRel (s : ByteArray) (j m : Nat) : Prop := (s.data.toList.take j).count 10 = m
theorem cnt_hit {s : ByteArray} {j m : Nat} (h : CntRel s j m) (hj : j < s.size) (hc : s[j] = 10) : CntRel s (j + 1) (m + 1) := by
  unfold CntRel at h ⊢
  have hl : j < s.data.toList.length := by rw [← Lib.size_eq]; exact hj
  rw [List.take_succ_eq_append_getElem hl, List.count_append, h]
  have e : s.data.toList[j] = 10 := hc
  rw [e]
  rfl
theorem cnt_miss {s : ByteArray} {j m : Nat} (h : CntRel s j m) (hj : j < s.size) (hc : s[j] ≠ 10) : CntRel s (j + 1) m := by
  unfold CntRel at h ⊢
  have hl : j < s.data.toList.length := by rw [← Lib.size_eq]; exact hj
  rw [List.take_succ_eq_append_getElem hl, List.count_append, h]
  have e : s.data.toList[j] ≠ 10 := hc
  rw [List.count_eq_zero.2 (by simpa using fun h => e h.symm), Nat.add_zero]
theorem cnt_end {s : ByteArray} {j m : Nat} (h : CntRel s j m) (hj : ¬ j < s.size) : s.data.toList.count 10 = m := by
  unfold CntRel at h
  rw [List.take_of_length_le (by rw [← Lib.size_eq]; omega)] at h
  exact h
set_option maxRecDepth 100000 in
set_option maxHeartbeats 2000000 in
theorem walk_list (s : ByteArray) (hs : s.size ≤ maxLen) (more : ByteArray) (hmr : more.size ≤ maxLen) (cut : Int) (w : World) :
    Calls Try.prog 5 #[.string s, .string more, .int .i64 cut] w fun e w' => e = .returned (.bool true) ∧ Below w.heap.size w w' := by
  have HA := Lib.hid (fun w => awake_any w)
  have hm1 : s.size ≤ 9223372036854775807 := by unfold maxLen at hs; omega
  have hm2 : more.size ≤ 9223372036854775807 := by unfold maxLen at hmr; omega
  clear hs hmr
  by_cases h3 : 3000 < s.size
  · go_enter Try.func5, Try.ntmps5
    go_wp2_with fail
    refine (HA.out _).mono ?_
    rintro e w1 ⟨rfl, hb1⟩
    have HB := Lib.hid hb1
    clear hb1
    go_wp2
    go_ret
    exact ⟨rfl, HB.out⟩
  by_cases h4 : 300 < more.size
  · go_enter Try.func5, Try.ntmps5
    go_wp2_with fail
    refine (HA.out _).mono ?_
    rintro e w1 ⟨rfl, hb1⟩
    have HB := Lib.hid hb1
    clear hb1
    go_wp2
    go_ret
    exact ⟨rfl, HB.out⟩
  have HP := Lib.hid (fun w => progRead_any s (by omega) w)
  go_enter Try.func5, Try.ntmps5
  go_wp2_with fail
  refine (HP.out w).mono ?_
  rintro e w1 ⟨hb1, p, N, M, rfl, -, -, ⟨hz, -⟩ | ⟨⟨hz, -⟩, -⟩⟩
  · have HB1 := Lib.hid hb1
    clear hb1 HP
    generalize (readR s.data.toList).1 = z at *
    generalize (readR s.data.toList).2.1 = a at *
    have t1 : (z != 0) = true := by simpa using hz
    clear hz
    go_wp2_with fail
    refine (HA.out _).mono ?_
    rintro e w2 ⟨rfl, hb2⟩
    have HB2 := Lib.hid (HB1.out.trans (hb2.mono HB1.out.size))
    clear hb2
    go_wp2
    go_ret
    exact ⟨rfl, HB2.out⟩
  have HB1 := Lib.hid hb1
  have HZ := Lib.hid hz
  rw [hz]
  clear hb1 hz HP
  generalize (readR s.data.toList).2.1 = a at *
  by_cases c1 : cut < 0
  · go_wp2_with fail
    refine (HA.out _).mono ?_
    rintro e w2 ⟨rfl, hb2⟩
    have HB2 := Lib.hid (HB1.out.trans (hb2.mono HB1.out.size))
    clear hb2
    go_wp2
    go_ret
    exact ⟨rfl, HB2.out⟩
  obtain ⟨k, rfl⟩ : ∃ k : Nat, cut = k := ⟨cut.toNat, by omega⟩
  by_cases c2 : s.size ≤ k
  · go_wp2_with fail
    refine (HA.out _).mono ?_
    rintro e w2 ⟨rfl, hb2⟩
    have HB2 := Lib.hid (HB1.out.trans (hb2.mono HB1.out.size))
    clear hb2
    go_wp2
    go_ret
    exact ⟨rfl, HB2.out⟩
  -- a text that is a graph, with bytes behind it, and cut off
  have hsz := Lib.size_eq s
  have hcl : k < s.data.toList.length := by omega
  have HC := Lib.hid (read_cut HZ.out hcl)
  have HM := Lib.hid (fun ht : more.data.toList ≠ [] => read_more HZ.out ht (by have := Lib.size_eq more; omega))
  have HM0 : Hid (more.data.toList = [] → (readR (s.data.toList ++ more.data.toList)).1 = 0) := Lib.hid fun h => by rw [h, List.append_nil]; exact HZ.out
  have HP1 := Lib.hid (fun w => progRead_any (s ++ more) (by rw [ByteArray.size_append]; omega) w)
  have HP2 := Lib.hid (fun w => progRead_any (s.extract 0 k) (by rw [ByteArray.size_extract]; omega) w)
  rw [ends_cat] at HP1
  rw [ends_to] at HP2
  clear hsz hcl HZ
  have HMS := Lib.hid (Lib.size_eq more)
  go_wp2_with fail
  refine (HP1.out w1).mono ?_
  rintro e w2 ⟨hb2, p2, -, -, rfl, -⟩
  have HB2 := Lib.hid (HB1.out.trans (hb2.mono HB1.out.size))
  clear hb2 HP1 HB1
  generalize (readR (s.data.toList ++ more.data.toList)).1 = f1 at *
  generalize (readR (s.data.toList ++ more.data.toList)).2.1 = a1 at *
  go_wp2_with fail
  refine (HP2.out w2).mono ?_
  rintro e w3 ⟨hb3, p3, -, -, rfl, -⟩
  have HB3 := Lib.hid (HB2.out.trans (hb3.mono HB2.out.size))
  clear hb3 HP2 HB2
  rw [HC.out.1]
  have q1 := HC.out.2.1
  have q2 := HC.out.2.2
  clear HC
  generalize (readR (s.data.toList.take k)).2.1 = a2 at *
  go_wp2_with fail
  go_loopw [16, 17] (fun lv iv wr => ∃ j m : Nat, iv = .int .i64 j ∧ lv = .int .i64 ((m : Int) + 1) ∧ j ≤ s.size ∧ m ≤ j ∧ Hid (CntRel s j m) ∧ wr = w3) (fun _ iv _ => s.size - (intOf iv).toNat)
  case atStart => exact ⟨0, 0, by go_num, by go_num, by omega, by omega, Lib.hid (by simp [CntRel]), rfl⟩
  case round =>
    obtain ⟨j, m, rfl, rfl, hj, hmj, HJ, rfl⟩ := hrel
    by_cases hlt : j < s.size
    · by_cases hc : s[j] = 10
      · have tc : (((s[j].toNat : Nat) : Int) == 10) = true := byte_yes (by decide) hc
        have HN := Lib.hid (cnt_hit HJ.out hlt hc)
        clear hc
        go_wp2
        go_roundw
        case rel => exact ⟨j + 1, m + 1, by go_num, by go_num, by omega, by omega, HN, trivial⟩
        case measure => simp [intOf]; omega
      · have tc : (((s[j].toNat : Nat) : Int) == 10) = false := byte_no (by decide) hc
        have HN := Lib.hid (cnt_miss HJ.out hlt hc)
        clear hc
        go_wp2
        go_roundw
        case rel => exact ⟨j + 1, m, by go_num, by go_num, by omega, by omega, HN, trivial⟩
        case measure => simp [intOf]; omega
    · have hcm := cnt_end HJ.out hlt
      rw [hcm] at HM q2
      clear hcm HJ
      by_cases h0 : more.size = 0
      · have hf : f1 = 0 := HM0.out (List.length_eq_zero_iff.1 (by rw [← HMS.out]; exact h0))
        subst hf
        clear HM HM0 HMS
        go_wp2_with fail
        refine (HA.out _).mono ?_
        rintro e w4 ⟨rfl, hb4⟩
        have HB4 := Lib.hid (HB3.out.trans (hb4.mono HB3.out.size))
        clear hb4
        go_wp2
        go_ret
        exact ⟨rfl, HB4.out⟩
      · have hf := HM.out (fun e => h0 (by rw [HMS.out, e]; rfl))
        obtain ⟨rfl, rfl⟩ := hf
        have b1 : (((m : Int) + 1) != ((m : Int) + 1)) = false := bne_self_eq_false _
        clear HM HM0 HMS
        go_wp2_with fail
        refine (HA.out _).mono ?_
        rintro e w4 ⟨rfl, hb4⟩
        have HB4 := Lib.hid (HB3.out.trans (hb4.mono HB3.out.size))
        clear hb4
        go_wp2
        go_ret
        exact ⟨rfl, HB4.out⟩
theorem own : ownKnob Try.prog.godebug = none := by kernel_rfl
theorem laidOut : laidOutB Try.prog = true := by kernel_rfl
set_option maxRecDepth 100000 in
theorem lifted (os : Os) (started : os.Started) (H : Type) (enc : TypeId × Value → H) :
    ReturnsInHanded {} Try.checked os 5 .any (Rows.greadEndsSpec.pre6 enc Try.prog Try.f5 Rows.greadEndsRow.domain false) (Rows.greadEndsSpec.post enc Try.prog Try.f5 false true false false) := by
  refine returnsInHanded_of_change (C := Try.checked) own started (by kernel_rfl) Try.func5
    (ChangeSpec.witness6 (enc := enc) (C := Try.checked) false ⟨#[], #[.string ⟨#[]⟩, .string ⟨#[]⟩, .int .i64 0], []⟩ 8 (by kernel_rfl) (by kernel_rfl) (by kernel_rfl) (by kernel_rfl)) ?_
  intro W base args ds gs before hval0 hW hcnd _
  have hval : ∀ (j : Nat) t v, Try.f5.params[j]? = some t → args[j]? = some v → Value.okWide Try.prog W .any base t v := hval0
  have hW' := hW
  obtain ⟨p, q, hA0, hV, rfl, hfz, hnd⟩ := hW
  have hA : DataW.TrodAll enc Try.prog W 0 (fun _ => true) true Try.f5.params.toList args.toList ds p := hA0
  rw [Try.params5] at hA hval
  obtain ⟨v0, vs0, d0, ds0, p0, q0, hargs, rfl, rfl, h0, r0⟩ := trodAll_cons hA
  obtain ⟨v1, vs1, d1, ds1, p1, q1, rfl, rfl, rfl, h1, r1⟩ := trodAll_cons r0
  obtain ⟨v2, vs2, d2, ds2, p2, q2, rfl, rfl, rfl, h2, r2⟩ := trodAll_cons r1
  obtain ⟨rfl, rfl, rfl⟩ := trodAll_nil r2
  obtain rfl : args = #[v0, v1, v2] := by cases args; simp_all
  obtain ⟨rfl, rfl⟩ := trodVars_none hV
  obtain ⟨a0, rfl, rfl, rfl, w0⟩ := open_string Try.underlying9 (hval 0 9 v0 rfl rfl) h0
  obtain ⟨a1, rfl, rfl, rfl, w1⟩ := open_string Try.underlying9 (hval 1 9 v1 rfl rfl) h1
  obtain ⟨a2, rfl, rfl, rfl, w2⟩ := open_int Try.underlying3 (hval 2 3 v2 rfl rfl) h2
  clear hA0 hval0
  simp only [List.append_nil] at hW'
  refine (walk_list a0 w0 a1 w1 a2 W ).mono fun e W' ⟨he, bel⟩ => ?_
  subst he
  exact ⟨_, rfl, _, _, _, [], [], [], hW', trodAll_mk1 (shut_bool Try.underlying4 _), (trodAll_cons_mk (shut_string Try.underlying9 w0) (trodAll_cons_mk (shut_string Try.underlying9 w1) (trodAll_cons_mk (shut_int Try.underlying3 w2) trodAll_mk0))), rfl, bel.frame _, fun h => by cases h⟩
theorem over : Rows.greadEndsRow.holds Try.pinned (OpenSpec.ofChange Rows.greadEndsSpec) :=
  OpenClaim.holds_of_wide 5 Try.f5 rfl rfl rfl rfl rfl rfl rfl ⟨rfl, rfl, rfl, rfl, rfl⟩ rfl rfl rfl rfl rfl (by kernel_rfl) Try.func5 (by kernel_rfl)
    (of_decide_eq_true (by kernel_rfl)) (by unfold Func.isWrapper; first | (rw [if_pos (by decide +kernel)]; kernel_rfl) | (rw [if_neg (by decide +kernel)]; exact ⟨rfl, rfl⟩))
    (fun os started H enc _ => lifted os started H enc)
/-- The statement. -/
theorem proved : Rows.GreadEndsSaid := over
#print axioms proved
end Go.Proofs.Ytflnmkgpmjefhaa.greadEnds
