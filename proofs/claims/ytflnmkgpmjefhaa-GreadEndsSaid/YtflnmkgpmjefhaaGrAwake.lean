/- The law's awake (layer 17). -/
import Derived.Test.YtflnmkgpmjefhaaGrCode
import Derived.Test.YtflnmkgpmjefhaaNtAsk2
namespace Go.Proofs.Ytflnmkgpmjefhaa.Gr
open Go.RowKit Go.ChangeShapes EdPure DecPure WordPure GrPure NtPure
set_option maxRecDepth 100000 in
set_option maxHeartbeats 800000 in
theorem awake_any (w : World) : Calls Try.prog 6 #[] w fun e w' => e = .returned (.bool true) ∧ Below w.heap.size w w' := by
  have HM := Lib.hid (progRead_any ⟨awA.toArray⟩ (by decide) w)
  have HM2 : Hid (∀ w, Calls Try.prog 11 #[.string ⟨awB.toArray⟩] w fun e w' => OutR awB w e w') := Lib.hid fun w => progRead_any ⟨awB.toArray⟩ (by decide) w
  go_enter Try.func6, Try.ntmps6
  go_wp2_with fail
  refine HM.out.mono ?_
  rintro e w1 ⟨hb1, p, N, M, rfl, hn, ⟨hN4, hM4, hg⟩, ⟨hne, -⟩ | ⟨-, ⟨g, rfl⟩, h1, h2⟩⟩
  · exact absurd (congrArg (·.1) aw_A) hne
  have h0 : (readR awA).1 = 0 ∧ (readR awA).2.1 = 0 := by rw [aw_A]; exact ⟨rfl, rfl⟩
  have h0' : (readR ((⟨awA.toArray⟩ : ByteArray)).data.toList).1 = 0 := h0.1
  have h0'' : (readR ((⟨awA.toArray⟩ : ByteArray)).data.toList).2.1 = 0 := h0.2
  rw [h0', h0'']
  obtain rfl : N = 2 := by
    have e : (readR awA).2.2.1 = 2 := by rw [aw_A]
    have h1' : (readR awA).2.2.1 = N := h1
    omega
  obtain rfl : M = [(0, 1, 7)] := by
    have h2' : mergeE (readR awA).2.2.2 = some M := h2
    rw [aw_A] at h2'
    exact (Option.some.inj (aw_M.symm.trans h2')).symm
  have HB := Lib.hid hb1
  have HG := Lib.hid hg
  have HN := Lib.hid hn
  have HA : Hid (allW [(0, 1, 7)] = 7) := Lib.hid (by decide)
  clear hb1 hg hn HM h1 h2 h0 h0' h0'' hM4
  go_wp2_with fail
  refine (HM2.out w1).mono ?_
  rintro e w2 ⟨hb2, p2, -, -, rfl, -⟩
  rw [aw_B.1, aw_B.2]
  replace HB := Lib.hid (HB.out.trans (hb2.mono HB.out.size))
  replace HN := Lib.hid (HN.out.over hb2)
  clear hb2 HM2
  go_wp2_with fail
  refine (cnt_any _ 2 _ _ HN.out).mono ?_
  rintro e w3 ⟨rfl, hb3⟩
  replace HB := Lib.hid (HB.out.trans (hb3.mono HB.out.size))
  replace HN := Lib.hid (HN.out.over hb3)
  clear hb3
  go_wp2_with fail
  refine (totalN_any _ 2 (by omega) _ HG.out (by simp) _ HN.out).mono ?_
  rintro e w4 ⟨rfl, hb4⟩
  rw [HA.out]
  replace HB := Lib.hid (HB.out.trans (hb4.mono HB.out.size))
  clear hb4
  go_wp2
  go_ret
  exact ⟨rfl, HB.out⟩
end Go.Proofs.Ytflnmkgpmjefhaa.Gr
