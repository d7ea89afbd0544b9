/- Texts that the laws of this seat stand on, part 36. -/
import Derived.Test.YtdbebebhldldmaaGreatDoorPk25
import Derived.Test.YtdbebebhldldmaaGreatDoorPk34
import Derived.Test.YtdbebebhldldmaaGreatDoorPk35
import Derived.Test.YtdbebebhldldmaaGreatDoorPk26
/- The document's Degree, Near and Total of a graph. -/
namespace Go.Proofs.YtdbebebhldldmaaGreatDoor
open Go.RowKit Go.ChangeShapes EdPure NtPure NumPure
/-- Over a loop: what was made so far beside the graph. -/
def LpSt (w : World) (n : Int) (a : Option Addr) (c : Nat) (M : List Ed) (wr : World) : Prop := Below w.heap.size w wr ∧ RnAt w.heap.size n a c M wr
theorem LpSt.keep {w wr w' : World} {n : Int} {a : Option Addr} {c : Nat} {M : List Ed} (h : LpSt w n a c M wr) (hb : Below wr.heap.size wr w') : LpSt w n a c M w' := ⟨h.1.trans (hb.mono h.1.size), h.2.keep hb⟩
theorem LpSt.box {w : World} {n : Int} {a : Option Addr} {c : Nat} {M : List Ed} (h : ReadsE w.heap.size w a M) : LpSt w n a c M (w.alloc (.cells #[.int .i64 n, .slice a M.length c] 30)) := ⟨(Below.refl _ _).alloc (Nat.le_refl _) _, RnAt.box h⟩
theorem sum_rng {n : Nat} {M : List Ed} (h : GoodN n M) (v : Int) {k : Nat} (hk : k ≤ n) : 0 ≤ sumN (fun u => weiE M u v) k ∧ sumN (fun u => weiE M u v) k ≤ 2251799813685248 := by
  have h0 : ∀ u, 0 ≤ weiE M u v := fun u => (wei_rng h u v).1
  have h1 := sumN_mono h0 hk
  have h2 := deg_sum h v
  have h3 := (deg_rng h.non v).2
  have h4 := h.2.2
  exact ⟨sumN_pos h0 k, by omega⟩
set_option maxRecDepth 100000 in
theorem refNear_any (n : Nat) (a : Option Addr) (c : Nat) (M : List Ed) (hM : GoodN n M) (hn : n ≤ 4096) (hl : M.length ≤ 1048576) (v : Int) (w : World) (hR : ReadsE w.heap.size w a M) :
    Calls Tryz.prog 37 #[.agg #[.int .i64 (n : Int), .slice a M.length c], .int .i64 v] w fun e w' => IntsOut (nearE M v) w e w' := by
  have HN : Hid (LpSt w n a c M (w.alloc (.cells #[.int .i64 (n : Int), .slice a M.length c] 30))) := Lib.hid (LpSt.box hR)
  have HM := Lib.hid hM
  have HL := Lib.hid (fun k => nearN_len M v k)
  have HE := Lib.hid (near_eq hM v)
  obtain ⟨ti, hi1, hi2, hi3, hi4⟩ := info_parts (show (Tryz.prog.info? 3).map (fun i => (i.zero, i.size, i.bytes)) = some (some (.int .i64 0), 1, 8) by kernel_rfl)
  have HG : Hid (GrowRel encZ 3 (w.alloc (.cells #[.int .i64 (n : Int), .slice a M.length c] 30)) ([] : List Int) (.slice none 0 0) (w.alloc (.cells #[.int .i64 (n : Int), .slice a M.length c] 30))) := Lib.hid (GrowRel.start _ _ _)
  clear hR hM
  go_enter Tryz.func37, Tryz.ntmps37
  go_wp2
  generalize w.alloc (.cells #[.int .i64 (n : Int), .slice a M.length c] 30) = W at *
  go_loopw [5, 6] (fun s i wr => ∃ k : Nat, i = .int .i64 k ∧ k ≤ n ∧ Hid (GrowRel encZ 3 W (nearN M v k) s wr)) (fun _ i _ => n - (intOf i).toNat)
  case atStart => exact ⟨0, rfl, Nat.zero_le _, HG⟩
  case round =>
    obtain ⟨k, rfl, hk, HK⟩ := hrel
    clear HG
    have i0 : (0 : Int) ≤ (k : Int) := by omega
    have HP := Lib.hid (HN.out.keep HK.out.1)
    obtain ⟨d0, d1, -, -⟩ := HP.out.2.1
    have dl := HP.out.2.1.lt
    by_cases hlt : k < n
    · have i1 : (k : Int) < (n : Int) := by omega
      have HC := Lib.hid (fun W h => refWeight_any (n : Int) a c M hl (k : Int) v W h)
      have hll := HL.out k
      by_cases hy : 0 < weiE M (k : Int) v
      · have HU : Hid (nearN M v (k + 1) = nearN M v k ++ [(k : Int)]) := Lib.hid (by show nearN M v k ++ _ = _; rw [if_pos hy])
        generalize weiE M (k : Int) v = y at *
        generalize nearN M v k = xs at *
        go_wp2_with fail
        refine (HC.out _ HP.out.2.2).mono ?_
        rintro e w1 ⟨rfl, hb1⟩
        have HK1 := Lib.hid (HK.out.on hb1)
        clear hb1 HK HP d0 d1 dl
        go_wp2_with (first
          | (at_builtin; refine wpList_append_own_at _ rfl _ _ 81 rfl W.heap.size 3 ti (.int .i64 0) 1 8 Tryz.underlying81 hi1 hi2 hi3 hi4 rfl (by decide) u5 xs.length (xs.map encZ) rfl (HK1.out.2.alloc _) ⟨w1.heap.size, 0, none⟩ 1 1 [.int .i64 (k : Int)] rfl rfl one_news (by intro u hu; simp at hu; subst hu; rfl) (by unfold maxLen; omega) (by omega) (by have := HK1.out.1.size; simp; omega) ?_; intro v' w6 hown6 hg6 _ _; have hst := HK1.out.step (k : Int) hown6 hg6; rw [← HU.out] at hst; have HS6 := Lib.hid hst; clear hst hown6 hg6)
          | go_in)
        go_roundw
        case rel => exact ⟨k + 1, by go_num, hlt, HS6⟩
        case measure => (simp [intOf]; omega)
      · have HU : Hid (nearN M v (k + 1) = nearN M v k) := Lib.hid (by show nearN M v k ++ _ = _; rw [if_neg hy, List.append_nil])
        have hy2 : ¬ (weiE M (k : Int) v > 0) := hy
        generalize weiE M (k : Int) v = y at *
        go_wp2_with (first | (go_at_call 39; refine (HC.out _ HP.out.2.2).mono ?_; rintro e w1 ⟨rfl, hb1⟩; have HK1 := Lib.hid (HK.out.on hb1); clear hb1))
        go_roundw
        case rel => exact ⟨k + 1, by go_num, hlt, by rw [HU.out]; exact HK1⟩
        case measure => (simp [intOf]; omega)
    · have hk' : k = n := by omega
      subst hk'
      rw [HE.out] at HK
      obtain ⟨q, cap, rfl, hr, -⟩ := HK.out.reads
      have HR := Lib.hid hr
      clear hr
      go_wp2
      go_ret
      exact ⟨HP.out.1, q, cap, rfl, HR.out⟩
end Go.Proofs.YtdbebebhldldmaaGreatDoor
/- The document's text of a graph (layer 18), whole. -/
namespace Go.Proofs.YtdbebebhldldmaaGreatDoor.Gp
open Go.RowKit Go.ChangeShapes EdPure DecPure WordPure GrPure GpPure NtPure Str
theorem two_both {N : Nat} {w : World} {u v : Value} (h : TwoAt N w u v) : w.cell? ⟨N, 0, none⟩ = some u ∧ w.cell? ⟨N, 1, none⟩ = some v := ⟨h.1, h.2.1⟩
set_option maxRecDepth 100000 in
set_option maxHeartbeats 2000000 in
theorem refPr_any (n : Int) (a : Option Addr) (c : Nat) (M : List Ed) (hl : M.length ≤ 100000) (hI : InL M) (hc : cntL M ≤ 100000) (hnn : ∀ e ∈ M, 0 ≤ e.2.2) (hn0 : -9223372036854775808 ≤ n) (hn1 : n ≤ 9223372036854775807) (w : World) (hR : ReadsE w.heap.size w a M) :
    Calls Tryz.prog 12 #[.agg #[.int .i64 n, .slice a M.length c]] w fun e w' => e = .returned (.string ⟨(textP n (splitL M)).toArray⟩) ∧ Below w.heap.size w w' := by
  have HSB : Hid (splitB M = true) := Lib.hid (splitB_yes hnn (by omega))
  have HSI := Lib.hid (split_in hI hnn)
  have HLN : Hid ((splitL M).length ≤ 100000) := Lib.hid (by rw [EdPure.split_len]; exact hc)
  have hB0 : Below w.heap.size w (w.alloc (.cells #[.int .i64 n, .slice a M.length c] 30)) := (Below.refl _ _).alloc (Nat.le_refl _) _
  have hT0 := TwoAt.new w (.int .i64 n) (.slice a M.length c) 30
  have hR0 := hR.over hB0 (Nat.le_refl _)
  have HTW : Hid (TwoAt w.heap.size (w.alloc (.cells #[.int .i64 n, .slice a M.length c] 30)) (.int .i64 n) (.slice a M.length c)) := Lib.hid hT0
  have HB0 := Lib.hid hB0
  have HR0 := Lib.hid hR0
  clear hB0 hT0 hR0
  go_enter Tryz.func12, Tryz.ntmps12
  go_wp2_with fail
  generalize w.alloc (.cells #[.int .i64 n, .slice a M.length c] 30) = W0 at *
  have HB1 : Hid (Below W0.heap.size W0 W0.drew) := Lib.hid ((Below.refl _ _).drew)
  refine wp_region_held_drew (S := fun W' => W'.cell? ⟨w.heap.size, 0, none⟩ = some (.int .i64 n) ∧ W'.cell? ⟨w.heap.size, 1, none⟩ = some (.slice a M.length c)) (by kernel_rfl) (two_both (HTW.out.on HB1.out HTW.out.lt)) (fun hHeld => ?_)
  have HR1' := Lib.hid (HR0.out.over HB1.out (Nat.le_refl _))
  generalize W0.drew = V at *
  have HC := Lib.hid (refSplit_any a c M hl hI V HR1'.out)
  refine dag_take (i := 0) (v := ?vp0) rfl rfl (by kernel_rfl) (by kernel_rfl) (by kernel_rfl) (fun _ _ _ h => h) (Or.inl ⟨by kernel_rfl, fun w' hSw => ?hyp0⟩) (by assumption) ?restp0
  case hyp0 => ((try dsimp only at hSw); go_simp; (try with_reducible rfl))
  simp only [Act.put]
  refine dag_take (i := 1) (v := ?vp1) rfl rfl (by kernel_rfl) (by kernel_rfl) (by kernel_rfl) (fun _ _ _ h => h) (Or.inl ⟨by kernel_rfl, fun w' hSw => ?hyp1⟩) (by assumption) ?restp1
  case hyp1 => ((try dsimp only at hSw); go_simp; (try with_reducible rfl))
  simp only [Act.put]
  refine dag_take (i := 2) (v := ?vp2) rfl rfl (by kernel_rfl) (by kernel_rfl) (by kernel_rfl) (fun _ _ _ h => h) (Or.inl ⟨by kernel_rfl, fun w' hSw => ?hyp2⟩) (by assumption) ?restp2
  case hyp2 => ((try dsimp only at hSw); go_simp; (try with_reducible rfl))
  simp only [Act.put]
  refine dag_take (i := 3) (v := ?vp3) rfl rfl (by kernel_rfl) (by kernel_rfl) (by kernel_rfl) (fun _ _ _ h => h) (Or.inl ⟨by kernel_rfl, fun w' hSw => ?hyp3⟩) (by assumption) ?restp3
  case hyp3 => ((try dsimp only at hSw); go_simp; (try with_reducible rfl))
  simp only [Act.put]
  refine wpAnyH_ready (rs := [4]) (by kernel_rfl) (by simp) ?_
  refine AllReadyH.cons rfl (fun K hK => ?_) AllReadyH.nil
  go_simp
  refine HC.out.mono ?_
  rintro e w1 ⟨hb1, ⟨hno, -⟩ | ⟨A, q, cap, hs, rfl, hr⟩⟩
  · rw [splitO_yes HSB.out] at hno; cases hno
  rw [splitO_yes HSB.out] at hs
  obtain rfl := Option.some.inj hs
  have HB2 := Lib.hid (HB1.out.trans (hb1.mono HB1.out.size))
  have HR1 := Lib.hid hr
  clear hb1 hs hr
  go_wp2_with fail
  refine hK.out _ _ ?hSp4 (fun hHeld => ?restp4)
  case hSp4 => exact two_both (HTW.out.on HB2.out HTW.out.lt)
  clear hK K
  refine dag_take (i := 5) (v := ?vp5) rfl rfl (by kernel_rfl) (by kernel_rfl) (by kernel_rfl) (fun _ _ _ h => h) (Or.inl ⟨by kernel_rfl, fun w' hSw => ?hyp5⟩) (by assumption) ?restp5
  case hyp5 => ((try dsimp only at hSw); go_simp; (try with_reducible rfl))
  simp only [Act.put]
  refine wpAnyH_ready (rs := [6]) (by kernel_rfl) (by simp) ?_
  refine AllReadyH.cons rfl (fun K hK => ?_) AllReadyH.nil
  go_simp
  refine (refText_any n q cap (splitL M) HLN.out HSI.out hn0 hn1 w1 HR1.out).mono ?_
  rintro e w2 ⟨rfl, hb2⟩
  have HB3 := Lib.hid (HB2.out.trans (hb2.mono HB2.out.size))
  clear hb2
  go_wp2_with fail
  refine hK.out _ _ ?hSp6 (fun hHeld => ?restp6)
  case hSp6 => exact two_both (HTW.out.on HB3.out HTW.out.lt)
  clear hK K
  refine wpAnyH_ready (rs := [7]) (by kernel_rfl) (by simp) ?_
  refine AllReadyH.cons rfl (fun K hK => ?_) AllReadyH.nil
  go_simp
  refine hK.out _ _ (by assumption) (fun hHeld => ?_)
  clear hK K
  refine wpAnyH_done (by kernel_rfl) ?_ _
  go_wp2
  go_ret
  exact ⟨rfl, HB0.out.trans (HB3.out.mono HB0.out.size)⟩
end Go.Proofs.YtdbebebhldldmaaGreatDoor.Gp
/- The document's drawing of a graph (layer 18). -/
namespace Go.Proofs.YtdbebebhldldmaaGreatDoor.Gp
open Go.RowKit Go.ChangeShapes EdPure DecPure WordPure GrPure GpPure NtPure Str
/-- The graph as it is boxed, and its edges. -/
def BoxSt (w : World) (N : Nat) (n : Nat) (a : Option Addr) (c : Nat) (M : List Ed) (W : World) : Prop :=
  Below w.heap.size w W ∧ TwoAt N W (.int .i64 (n : Int)) (.slice a M.length c) ∧ ReadsE W.heap.size W a M
theorem BoxSt.keep {w W W' : World} {N n : Nat} {a : Option Addr} {c : Nat} {M : List Ed} (h : BoxSt w N n a c M W) (hb : Below W.heap.size W W') : BoxSt w N n a c M W' :=
  ⟨h.1.trans (hb.mono h.1.size), h.2.1.on hb h.2.1.lt, h.2.2.over hb (Nat.le_refl _)⟩
theorem BoxSt.start {w : World} {n : Nat} {a : Option Addr} {c : Nat} {M : List Ed} (hR : ReadsE w.heap.size w a M) :
    BoxSt w w.heap.size n a c M (w.alloc (.cells #[.int .i64 (n : Int), .slice a M.length c] 30)) :=
  have hb := (Below.refl w.heap.size w).alloc (Nat.le_refl _) (.cells #[.int .i64 (n : Int), .slice a M.length c] 30)
  ⟨hb, TwoAt.new _ _ _ _, hR.over hb (Nat.le_refl _)⟩
theorem three_all {N : Nat} {w : World} {a b c : Value} (h : ThreeAt N w a b c) : w.cell? ⟨N, 0, none⟩ = some a ∧ w.cell? ⟨N, 1, none⟩ = some b ∧ w.cell? ⟨N, 2, none⟩ = some c := ⟨h.1, h.2.1, h.2.2.1⟩
def hdD : List UInt8 := [103, 114, 97, 112, 104, 32, 123, 10]
set_option maxRecDepth 100000 in
set_option maxHeartbeats 4000000 in
theorem refDot_any (n : Nat) (hn : n ≤ 4096) (a : Option Addr) (c : Nat) (M : List Ed) (hl : M.length ≤ 100000) (hG : GoodN n M) (w : World) (hR : ReadsE w.heap.size w a M) :
    Calls Tryz.prog 13 #[.agg #[.int .i64 (n : Int), .slice a M.length c]] w fun e w' => e = .returned (.string ⟨(dotP n M).toArray⟩) ∧ Below w.heap.size w w' := by
  have HG := Lib.hid hG
  have HI : Hid (InL M) := Lib.hid fun x hx => (hG.1.2 x hx).2
  have HS0 : Hid (BoxSt w w.heap.size n a c M (w.alloc (.cells #[.int .i64 (n : Int), .slice a M.length c] 30))) := Lib.hid (BoxSt.start hR)
  clear hG hR
  go_enter Tryz.func13, Tryz.ntmps13
  go_wp2_with fail
  generalize w.alloc (.cells #[.int .i64 (n : Int), .slice a M.length c] 30) = W0 at *
  go_loopw [3, 4] (fun t i wr => ∃ (k : Nat) (T : ByteArray), i = .int .i64 k ∧ k ≤ n ∧ t = .string T ∧ Hid (T = ⟨(hdD ++ isoP M k).toArray⟩) ∧ Hid (BoxSt w w.heap.size n a c M wr)) (fun _ i _ => n - (intOf i).toNat)
  case atStart => exact ⟨0, _, rfl, Nat.zero_le _, rfl, Lib.hid rfl, HS0⟩
  case round =>
    obtain ⟨k, T, rfl, hk, rfl, HT, HF⟩ := hrel
    have t1 : T.size ≤ 100000 := by have := iso_size M (k := k) (by omega); rw [HT.out, size_mk, List.length_append]; simp only [hdD, List.length_cons, List.length_nil]; omega
    obtain ⟨c0, c1, -, -⟩ := HF.out.2.1
    by_cases hlt : k < n
    · have HC := Lib.hid (refNear_any n a c M HG.out (by omega) (by omega) (k : Int) wr HF.out.2.2)
      have HNX : Hid (isoP M (k + 1) = isoP M k ++ if nearE M (k : Int) = [] then Lib.itoa (k : Int) ++ [59, 10] else []) := Lib.hid (iso_succ M k)
      have i1 : (k : Int) < (n : Int) := by omega
      go_wp2_with fail
      refine HC.out.mono ?_
      rintro e w1 ⟨hb1, q, c', rfl, -⟩
      have HF1 := Lib.hid (HF.out.keep hb1)
      clear hb1 HC HF c0 c1
      by_cases h0 : nearE M (k : Int) = []
      · have HP := Lib.hid (R6.refPrint_any (k : Int) (by omega) (by omega) w1)
        have HIL := Lib.hid (itoa_size (n := (k : Int)) (by unfold In; omega))
        obtain ⟨X, hX⟩ : ∃ X : ByteArray, X = ⟨(Lib.itoa (k : Int)).toArray⟩ := ⟨_, rfl⟩
        have t2 : X.size ≤ 20 := by rw [hX, size_mk]; exact HIL.out
        have HN2 : Hid (T ++ X ++ ⟨#[59, 10]⟩ = ⟨(hdD ++ isoP M (k + 1)).toArray⟩) := Lib.hid (by
          rw [HT.out, hX, HNX.out, if_pos h0, show (⟨#[59, 10]⟩ : ByteArray) = ⟨[59, 10].toArray⟩ from rfl, cat_bytes, cat_bytes, List.append_assoc, List.append_assoc])
        rw [← hX] at HP
        clear hX HNX HT HIL
        have b0 : (((nearE M (k : Int)).length : Int) == 0) = true := by rw [h0]; rfl
        clear h0
        go_wp2_with fail
        refine HP.out.mono ?_
        rintro e w2 ⟨rfl, hb2⟩
        have HF2 := Lib.hid (HF1.out.keep hb2)
        clear hb2 HP HF1
        go_wp2
        go_roundw
        case rel => exact ⟨k + 1, _, by go_num, hlt, rfl, HN2, HF2⟩
        case measure => simp [intOf]; omega
      · have HN2 : Hid (T = ⟨(hdD ++ isoP M (k + 1)).toArray⟩) := Lib.hid (by rw [HT.out, HNX.out, if_neg h0, List.append_nil])
        have b0 : (((nearE M (k : Int)).length : Int) == 0) = false := by
          rw [beq_eq_false_iff_ne]
          have := List.length_pos_iff.2 h0
          omega
        clear h0 HNX HT
        go_wp2
        go_roundw
        case rel => exact ⟨k + 1, _, by go_num, hlt, rfl, HN2, HF1⟩
        case measure => simp [intOf]; omega
    · have hke : k = n := by omega
      have i1 : ¬ (k : Int) < (n : Int) := by omega
      have HT2 : Hid (T = ⟨(hdD ++ isoP M n ++ dotsP (M.take 0)).toArray⟩) := Lib.hid (by rw [HT.out, hke, List.take_zero]; show _ = (⟨(hdD ++ isoP M n ++ []).toArray⟩ : ByteArray); rw [List.append_nil])
      clear HT hke
      obtain ⟨W3, hW3⟩ : ∃ W3, W3 = wr := ⟨_, rfl⟩
      subst hW3
      go_wp2
      clear c0 c1
      go_loopw [3, 5] (fun t i wr => ∃ (k : Nat) (T : ByteArray), i = .int .i64 k ∧ k ≤ M.length ∧ t = .string T ∧ Hid (T = ⟨(hdD ++ isoP M n ++ dotsP (M.take k)).toArray⟩) ∧ Hid (BoxSt w w.heap.size n a c M wr)) (fun _ i _ => M.length - (intOf i).toNat)
      case atStart => exact ⟨0, T, rfl, Nat.zero_le _, rfl, HT2, HF⟩
      case round =>
        clear HT2 HF t1
        obtain ⟨j, T, rfl, hj, rfl, HT, HF⟩ := hrel
        have t1 : T.size ≤ 9000000 := by
          have h1 := iso_size M (k := n) (by omega)
          have h2 := dots_size (HI.out.take j)
          rw [List.length_take] at h2
          rw [HT.out, size_mk, List.length_append, List.length_append]; simp only [hdD, List.length_cons, List.length_nil]; omega
        obtain ⟨c0, c1, -, -⟩ := HF.out.2.1
        by_cases hlt2 : j < M.length
        · obtain ⟨u, v, x, he⟩ : ∃ u v x, M[j] = (u, v, x) := ⟨_, _, _, rfl⟩
          obtain ⟨b, off, rfl, hbw, hbr, m0, m1, m2⟩ := HF.out.2.2.cells hlt2 (Below.refl _ _) he
          have hin := HI.out.at hlt2
          rw [he] at hin
          obtain ⟨⟨u1, u2⟩, ⟨v1, v2⟩, x1, x2⟩ := hin
          have HNX : Hid (dotsP (M.take (j + 1)) = dotsP (M.take j) ++ dotE (u, v, x)) := Lib.hid (by rw [dots_take hlt2, he])
          have HP1 := Lib.hid (fun W => R6.refPrint_any u u1 u2 W)
          have HP2 := Lib.hid (fun W => R6.refPrint_any v v1 v2 W)
          have HP3 := Lib.hid (fun W => R6.refPrint_any x x1 x2 W)
          obtain ⟨X, hX⟩ : ∃ X : ByteArray, X = ⟨(Lib.itoa u).toArray⟩ := ⟨_, rfl⟩
          obtain ⟨Y, hY⟩ : ∃ Y : ByteArray, Y = ⟨(Lib.itoa v).toArray⟩ := ⟨_, rfl⟩
          obtain ⟨Z, hZ⟩ : ∃ Z : ByteArray, Z = ⟨(Lib.itoa x).toArray⟩ := ⟨_, rfl⟩
          have s1 : X.size ≤ 20 := by rw [hX, size_mk]; exact itoa_size ⟨u1, u2⟩
          have s2 : Y.size ≤ 20 := by rw [hY, size_mk]; exact itoa_size ⟨v1, v2⟩
          have s3 : Z.size ≤ 20 := by rw [hZ, size_mk]; exact itoa_size ⟨x1, x2⟩
          have HN2 : Hid (T ++ X ++ ⟨#[32, 45, 45, 32]⟩ ++ Y ++ ⟨#[32, 91]⟩ ++ Z ++ ⟨#[93, 59, 10]⟩ = ⟨(hdD ++ isoP M n ++ dotsP (M.take (j + 1))).toArray⟩) := Lib.hid (by
            rw [HT.out, hX, hY, hZ, HNX.out, show (⟨#[32, 45, 45, 32]⟩ : ByteArray) = ⟨[32, 45, 45, 32].toArray⟩ from rfl, show (⟨#[32, 91]⟩ : ByteArray) = ⟨[32, 91].toArray⟩ from rfl, show (⟨#[93, 59, 10]⟩ : ByteArray) = ⟨[93, 59, 10].toArray⟩ from rfl]
            simp only [cat_bytes]
            refine congrArg (fun z : List UInt8 => (⟨z.toArray⟩ : ByteArray)) ?_
            simp only [dotE, List.append_assoc])
          rw [← hX] at HP1
          rw [← hY] at HP2
          rw [← hZ] at HP3
          have hbA : Below wr.heap.size wr (wr.alloc (.cells #[.int .i64 u, .int .i64 v, .int .i64 x] 51)) := (Below.refl _ _).alloc (Nat.le_refl _) _
          have HF1 := Lib.hid (HF.out.keep hbA)
          have HT6 := Lib.hid (ThreeAt.new wr (.int .i64 u) (.int .i64 v) (.int .i64 x) 51)
          clear hX hY hZ HNX HT he u1 u2 v1 v2 x1 x2 hbA
          have r1 : (⟨#[32, 45, 45, 32]⟩ : ByteArray).size = 4 := rfl
          have r2 : (⟨#[32, 91]⟩ : ByteArray).size = 2 := rfl
          have r3 : (⟨#[93, 59, 10]⟩ : ByteArray).size = 3 := rfl
          go_upto_region 11 with fail
          generalize wr.alloc (.cells #[.int .i64 u, .int .i64 v, .int .i64 x] 51) = V at *
          generalize wr.heap.size = B at *
          clear m0 m1 m2 c0 c1 HF
          have HE1 : Hid (Below V.heap.size V V.drew) := Lib.hid ((Below.refl _ _).drew)
          refine wp_region_held_drew (S := fun W' => W'.cell? ⟨B, 0, none⟩ = some (.int .i64 u) ∧ W'.cell? ⟨B, 1, none⟩ = some (.int .i64 v) ∧ W'.cell? ⟨B, 2, none⟩ = some (.int .i64 x)) (by kernel_rfl) (three_all (HT6.out.on HE1.out HT6.out.lt)) (fun hHeld => ?_)
          generalize V.drew = V1 at *
          refine dag_take (i := 0) (v := ?vd0) rfl rfl (by kernel_rfl) (by kernel_rfl) (by kernel_rfl) (fun _ _ _ h => h) (Or.inl ⟨by kernel_rfl, fun w' hSw => ?hyd0⟩) (by assumption) ?restd0
          case hyd0 => ((try dsimp only at hSw); go_simp; (try with_reducible rfl))
          simp only [Act.put]
          refine dag_take (i := 1) (v := ?vd1) rfl rfl (by kernel_rfl) (by kernel_rfl) (by kernel_rfl) (fun _ _ _ h => h) (Or.inl ⟨by kernel_rfl, fun w' hSw => ?hyd1⟩) (by assumption) ?restd1
          case hyd1 => ((try dsimp only at hSw); go_simp; (try with_reducible rfl))
          simp only [Act.put]
          refine dag_take (i := 2) (v := ?vd2) rfl rfl (by kernel_rfl) (by kernel_rfl) (by kernel_rfl) (fun _ _ _ h => h) (Or.inl ⟨by kernel_rfl, fun w' hSw => ?hyd2⟩) (by assumption) ?restd2
          case hyd2 => ((try dsimp only at hSw); go_simp; (try with_reducible rfl))
          simp only [Act.put]
          refine dag_take (i := 6) (v := ?vd6) rfl rfl (by kernel_rfl) (by kernel_rfl) (by kernel_rfl) (fun _ _ _ h => h) (Or.inl ⟨by kernel_rfl, fun w' hSw => ?hyd6⟩) (by assumption) ?restd6
          case hyd6 => ((try dsimp only at hSw); go_simp; (try with_reducible rfl))
          simp only [Act.put]
          refine dag_take (i := 7) (v := ?vd7) rfl rfl (by kernel_rfl) (by kernel_rfl) (by kernel_rfl) (fun _ _ _ h => h) (Or.inl ⟨by kernel_rfl, fun w' hSw => ?hyd7⟩) (by assumption) ?restd7
          case hyd7 => ((try dsimp only at hSw); go_simp; (try with_reducible rfl))
          simp only [Act.put]
          refine dag_take (i := 11) (v := ?vd11) rfl rfl (by kernel_rfl) (by kernel_rfl) (by kernel_rfl) (fun _ _ _ h => h) (Or.inl ⟨by kernel_rfl, fun w' hSw => ?hyd11⟩) (by assumption) ?restd11
          case hyd11 => ((try dsimp only at hSw); go_simp; (try with_reducible rfl))
          simp only [Act.put]
          refine dag_take (i := 12) (v := ?vd12) rfl rfl (by kernel_rfl) (by kernel_rfl) (by kernel_rfl) (fun _ _ _ h => h) (Or.inl ⟨by kernel_rfl, fun w' hSw => ?hyd12⟩) (by assumption) ?restd12
          case hyd12 => ((try dsimp only at hSw); go_simp; (try with_reducible rfl))
          simp only [Act.put]
          refine wpAnyH_ready (rs := [3]) (by kernel_rfl) (by simp) ?_
          refine AllReadyH.cons rfl (fun K hK => ?_) AllReadyH.nil
          go_simp
          refine (HP1.out _).mono ?_
          rintro e y1 ⟨rfl, hb1⟩
          have HE2 := Lib.hid (HE1.out.trans (hb1.mono HE1.out.size))
          clear hb1
          go_wp2_with fail
          refine hK.out _ _ ?hSd3 (fun hHeld => ?restd3)
          case hSd3 => exact three_all (HT6.out.on HE2.out HT6.out.lt)
          clear hK K
          refine dag_take (i := 4) (v := ?vd4) rfl rfl (by kernel_rfl) (by kernel_rfl) (by kernel_rfl) (fun _ _ _ h => h) (Or.inl ⟨by kernel_rfl, fun w' hSw => ?hyd4⟩) (by assumption) ?restd4
          case hyd4 => ((try dsimp only at hSw); go_simp; rw [if_neg (by (try simp only [ByteArray.size_append]); omega)])
          simp only [Act.put]
          refine dag_take (i := 5) (v := ?vd5) rfl rfl (by kernel_rfl) (by kernel_rfl) (by kernel_rfl) (fun _ _ _ h => h) (Or.inl ⟨by kernel_rfl, fun w' hSw => ?hyd5⟩) (by assumption) ?restd5
          case hyd5 => ((try dsimp only at hSw); go_simp; rw [if_neg (by (try simp only [ByteArray.size_append]); omega)])
          simp only [Act.put]
          refine wpAnyH_ready (rs := [8]) (by kernel_rfl) (by simp) ?_
          refine AllReadyH.cons rfl (fun K hK => ?_) AllReadyH.nil
          go_simp
          refine (HP2.out _).mono ?_
          rintro e y2 ⟨rfl, hb2⟩
          have HE3 := Lib.hid (HE2.out.trans (hb2.mono HE2.out.size))
          clear hb2
          go_wp2_with fail
          refine hK.out _ _ ?hSd8 (fun hHeld => ?restd8)
          case hSd8 => exact three_all (HT6.out.on HE3.out HT6.out.lt)
          clear hK K
          refine dag_take (i := 9) (v := ?vd9) rfl rfl (by kernel_rfl) (by kernel_rfl) (by kernel_rfl) (fun _ _ _ h => h) (Or.inl ⟨by kernel_rfl, fun w' hSw => ?hyd9⟩) (by assumption) ?restd9
          case hyd9 => ((try dsimp only at hSw); go_simp; rw [if_neg (by (try simp only [ByteArray.size_append]); omega)])
          simp only [Act.put]
          refine dag_take (i := 10) (v := ?vd10) rfl rfl (by kernel_rfl) (by kernel_rfl) (by kernel_rfl) (fun _ _ _ h => h) (Or.inl ⟨by kernel_rfl, fun w' hSw => ?hyd10⟩) (by assumption) ?restd10
          case hyd10 => ((try dsimp only at hSw); go_simp; rw [if_neg (by (try simp only [ByteArray.size_append]); omega)])
          simp only [Act.put]
          refine wpAnyH_ready (rs := [13]) (by kernel_rfl) (by simp) ?_
          refine AllReadyH.cons rfl (fun K hK => ?_) AllReadyH.nil
          go_simp
          refine (HP3.out _).mono ?_
          rintro e y3 ⟨rfl, hb3⟩
          have HE4 := Lib.hid (HE3.out.trans (hb3.mono HE3.out.size))
          clear hb3
          go_wp2_with fail
          refine hK.out _ _ ?hSd13 (fun hHeld => ?restd13)
          case hSd13 => exact three_all (HT6.out.on HE4.out HT6.out.lt)
          clear hK K
          refine dag_take (i := 14) (v := ?vd14) rfl rfl (by kernel_rfl) (by kernel_rfl) (by kernel_rfl) (fun _ _ _ h => h) (Or.inl ⟨by kernel_rfl, fun w' hSw => ?hyd14⟩) (by assumption) ?restd14
          case hyd14 => ((try dsimp only at hSw); go_simp; rw [if_neg (by (try simp only [ByteArray.size_append]); omega)])
          simp only [Act.put]
          refine dag_take (i := 15) (v := ?vd15) rfl rfl (by kernel_rfl) (by kernel_rfl) (by kernel_rfl) (fun _ _ _ h => h) (Or.inl ⟨by kernel_rfl, fun w' hSw => ?hyd15⟩) (by assumption) ?restd15
          case hyd15 => ((try dsimp only at hSw); go_simp; rw [if_neg (by (try simp only [ByteArray.size_append]); omega)])
          simp only [Act.put]
          refine wpAnyH_ready (rs := [16]) (by kernel_rfl) (by simp) ?_
          refine AllReadyH.cons rfl (fun K hK => ?_) AllReadyH.nil
          go_simp
          refine hK.out _ _ (by assumption) (fun hHeld => ?_)
          clear hK K
          refine wpAnyH_done (by kernel_rfl) ?_ _
          have HF2 := Lib.hid (HF1.out.keep HE4.out)
          go_wp2
          go_roundw
          case rel => exact ⟨j + 1, _, by go_num, hlt2, rfl, HN2, HF2⟩
          case measure => simp [intOf]; omega
        · have hke : j = M.length := by omega
          have i2 : ¬ (j : Int) < (M.length : Int) := by omega
          have HE : Hid (T ++ ⟨#[125, 10]⟩ = ⟨(dotP n M).toArray⟩) := Lib.hid (by
            rw [HT.out, hke, List.take_length, show (⟨#[125, 10]⟩ : ByteArray) = ⟨[125, 10].toArray⟩ from rfl, cat_bytes]; rfl)
          clear HT hke
          go_wp2
          go_ret
          refine ⟨?_, HF.out.1⟩
          rw [← HE.out]; rfl
end Go.Proofs.YtdbebebhldldmaaGreatDoor.Gp
