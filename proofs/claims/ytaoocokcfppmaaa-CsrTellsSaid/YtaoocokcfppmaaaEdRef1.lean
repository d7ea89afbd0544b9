/- The document's Check, Normal, Cmp, Checks, Find, Total, Same. -/
import Derived.Test.YtaoocokcfppmaaaEdLoops
import Derived.Test.YtaoocokcfppmaaaNumRef1
namespace Go.Proofs.Ytaoocokcfppmaaa
open Go.RowKit Go.ChangeShapes EdPure NumPure
theorem refCheck_any (n : Int) (e : Ed) (w : World) :
    Calls Try.prog 43 #[.int .i64 n, encE e] w fun r w' => r = .returned (.int .i64 (chkE n e)) ∧ Below w.heap.size w w' := by
  obtain ⟨u, v, x⟩ := e
  unfold encE
  by_cases h1 : u < 0
  · have HE : Hid (chkE n (u, v, x) = 4) := Lib.hid (by unfold chkE; rw [if_neg (by simp only; omega)])
    go_enter Try.func43, Try.ntmps43
    go_wp2
    go_ret
    exact ⟨ret_i HE.out.symm, (Below.refl _ _).alloc (Nat.le_refl _) _⟩
  by_cases h2 : u < n
  · by_cases h3 : v < 0
    · have HE : Hid (chkE n (u, v, x) = 4) := Lib.hid (by unfold chkE; rw [if_neg (by simp only; omega)])
      go_enter Try.func43, Try.ntmps43
      go_wp2
      go_ret
      exact ⟨ret_i HE.out.symm, (Below.refl _ _).alloc (Nat.le_refl _) _⟩
    by_cases h4 : v < n
    · by_cases h5 : x < 0
      · have HE : Hid (chkE n (u, v, x) = 5) := Lib.hid (by unfold chkE; rw [if_pos (by simp only; omega), if_neg (by simp only; omega)])
        go_enter Try.func43, Try.ntmps43
        go_wp2
        go_ret
        exact ⟨ret_i HE.out.symm, (Below.refl _ _).alloc (Nat.le_refl _) _⟩
      by_cases h6 : x ≤ 2147483648
      · have HE : Hid (chkE n (u, v, x) = 0) := Lib.hid (by unfold chkE; rw [if_pos (by simp only; omega), if_pos (by simp only; omega)])
        go_enter Try.func43, Try.ntmps43
        go_wp2
        go_ret
        exact ⟨ret_i HE.out.symm, (Below.refl _ _).alloc (Nat.le_refl _) _⟩
      · have HE : Hid (chkE n (u, v, x) = 5) := Lib.hid (by unfold chkE; rw [if_pos (by simp only; omega), if_neg (by simp only; omega)])
        go_enter Try.func43, Try.ntmps43
        go_wp2
        go_ret
        exact ⟨ret_i HE.out.symm, (Below.refl _ _).alloc (Nat.le_refl _) _⟩
    · have HE : Hid (chkE n (u, v, x) = 4) := Lib.hid (by unfold chkE; rw [if_neg (by simp only; omega)])
      go_enter Try.func43, Try.ntmps43
      go_wp2
      go_ret
      exact ⟨ret_i HE.out.symm, (Below.refl _ _).alloc (Nat.le_refl _) _⟩
  · have HE : Hid (chkE n (u, v, x) = 4) := Lib.hid (by unfold chkE; rw [if_neg (by simp only; omega)])
    go_enter Try.func43, Try.ntmps43
    go_wp2
    go_ret
    exact ⟨ret_i HE.out.symm, (Below.refl _ _).alloc (Nat.le_refl _) _⟩
theorem refNormal_any (e : Ed) (w : World) :
    Calls Try.prog 45 #[encE e] w fun r w' => r = .returned (encE (normE e)) ∧ Below w.heap.size w w' := by
  obtain ⟨u, v, x⟩ := e
  unfold encE
  by_cases h : v < u
  · have HE : Hid ((v, u, x) = normE (u, v, x)) := Lib.hid (by unfold normE; rw [if_pos h])
    go_enter Try.func45, Try.ntmps45
    go_wp2
    refine bodyPost_ret (v := .agg #[.int .i64 v, .int .i64 u, .int .i64 x]) (by simp [results, Try.results45, go_sem]) rfl ⟨agg_e HE.out, ?_⟩
    exact below_two
  · have HE : Hid ((u, v, x) = normE (u, v, x)) := Lib.hid (by unfold normE; rw [if_neg h])
    go_enter Try.func45, Try.ntmps45
    go_wp2
    refine bodyPost_ret (v := .agg #[.int .i64 u, .int .i64 v, .int .i64 x]) (by simp [results, Try.results45, go_sem]) rfl ⟨agg_e HE.out, ?_⟩
    exact below_two
theorem agg_iiE {a b c d : Int} (h1 : a = b) (h2 : c = d) : Ending.returned (.agg #[.int .i64 a, .int .i64 c]) = .returned (.agg #[.int .i64 b, .int .i64 d]) := by rw [h1, h2]
theorem refChecks_any (n : Int) (a : Option Addr) (c : Nat) (l : List Ed) (hl : l.length ≤ 1048576) (w : World) (hR : ReadsE w.heap.size w a l) :
    Calls Try.prog 32 #[.int .i64 n, .slice a l.length c] w fun e w' => e = .returned (.agg #[.int .i64 (chkL n l 0).1, .int .i64 (chkL n l 0).2]) ∧ Below w.heap.size w w' := by
  have HR := Lib.hid hR
  have H2 : Hid (TwoAt w.heap.size (w.alloc (.cells #[.int .i64 0, .int .i64 0] 67)) (.int .i64 0) (.int .i64 0)) := Lib.hid (TwoAt.new _ _ _ _)
  have HB0 : Hid (Below w.heap.size w (w.alloc (.cells #[.int .i64 0, .int .i64 0] 67))) := Lib.hid ((Below.refl _ _).alloc (Nat.le_refl _) _)
  clear hR
  go_enter Try.func32, Try.ntmps32
  go_wp2
  generalize w.alloc (.cells #[.int .i64 0, .int .i64 0] 67) = w0 at *
  go_loopw [5] (fun i wr => ∃ k : Nat, i = .int .i64 k ∧ Hid (ChkRel n w l k wr ∧ TwoAt w.heap.size wr (.int .i64 0) (.int .i64 0))) (fun i _ => l.length - (intOf i).toNat)
  case atStart => exact ⟨0, rfl, Lib.hid ⟨⟨Nat.zero_le _, HB0.out, fun j _ h => by omega⟩, H2.out⟩⟩
  case round =>
    obtain ⟨k, rfl, HK⟩ := hrel
    clear H2 HB0
    have i0 : (0 : Int) ≤ (k : Int) := by omega
    by_cases hlt : k < l.length
    · have i1 : (k : Int) < (l.length : Int) := by omega
      obtain ⟨u, v, x, he⟩ : ∃ u v x, l[k] = (u, v, x) := ⟨_, _, _, rfl⟩
      obtain ⟨b, off, rfl, hbw, hbr, c0, c1, c2⟩ := HR.out.cells hlt HK.out.1.2.1 he
      have HC := Lib.hid (refCheck_any n (u, v, x) wr)
      unfold encE at HC
      have HE := Lib.hid he
      clear he
      by_cases h0 : chkE n (u, v, x) = 0
      · have H0 := Lib.hid h0
        rw [h0] at HC
        clear h0
        go_wp2_with (first | (go_at_call 43; refine HC.out.mono ?_; rintro e w1 ⟨rfl, hb⟩; have H1 := Lib.hid hb; clear hb))
        go_roundw
        case rel => exact ⟨k + 1, by go_num, Lib.hid ⟨HK.out.1.next hlt (by rw [HE.out]; exact H0.out) (HK.out.1.2.1.trans (H1.out.mono HK.out.1.2.1.size)), HK.out.2.on H1.out HK.out.2.lt⟩⟩
        case measure => (simp [intOf]; omega)
      · have HX : Hid (chkL n l 0 = (chkE n (u, v, x), (k : Int))) := Lib.hid (by
          rw [chk_hit n l 0 k hlt (by rw [HE.out]; exact h0) HK.out.1.2.2, HE.out, Nat.zero_add])
        have t : (chkE n (u, v, x) != 0) = true := by simpa using h0
        clear h0
        generalize chkE n (u, v, x) = r at *
        go_wp2_with fail
        refine HC.out.mono ?_
        rintro e w1 ⟨rfl, hb⟩
        have hA := (HK.out.2.on hb HK.out.2.lt)
        obtain ⟨d0, d1, g0, g1⟩ := hA
        have H1 := Lib.hid hb
        clear hb
        go_wp2
        refine bodyPost_ret (v := .agg #[.int .i64 r, .int .i64 k]) (by simp [results, Try.results32, go_sem, d0, d1]) rfl ⟨agg_iiE (by rw [HX.out]) (by rw [HX.out]), ?_⟩
        exact ((HK.out.1.2.1.trans (H1.out.mono HK.out.1.2.1.size)).setCell (Nat.le_refl _) _).setCell (Nat.le_refl _) _
    · have hk : k = l.length := by have := HK.out.1.1; omega
      subst hk
      have HX : Hid (chkL n l 0 = (0, 0)) := Lib.hid (chk_miss n l 0 fun j hj => HK.out.1.2.2 j hj hj)
      obtain ⟨d0, d1, g0, g1⟩ := HK.out.2
      go_wp2
      refine bodyPost_ret (v := .agg #[.int .i64 0, .int .i64 0]) (by simp [results, Try.results32, go_sem, d0, d1]) rfl ⟨agg_iiE (by rw [HX.out]) (by rw [HX.out]), ?_⟩
      exact (HK.out.1.2.1.setCell (Nat.le_refl _) _).setCell (Nat.le_refl _) _
end Go.Proofs.Ytaoocokcfppmaaa
