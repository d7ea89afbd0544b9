/- Each arc of any graph leads out of its tail, once, by rising heads; what leads back leads back; of nil there is nothing. Conditions: none: every number of vertices up to 255, every slice of edges (of more than 60 the law asks only that the program tells arcs at all), every number. -/
import Derived.Test.YtaoocokcfppmaaaCsAwake
import Derived.Test.YtaoocokcfppmaaaNtAsk2
import Derived.Test.YtaoocokcfppmaaaEdOpen
import Derived.Test.YtaoocokcfppmaaaTurn
import Derived.Test.YtaoocokcfppmaaaChecked
import Derived.Test.YtaoocokcfppmaaaRows
import Derived.ChangeSlices
import Derived.ProofKit
import Derived.OpenShut
import Derived.ChangeOld
import Derived.Below
import Derived.Carry
namespace Go.Proofs.Ytaoocokcfppmaaa.csrPairs
open Go.ChangeShapes Go.WideShapes Go.ChangeAt Go.RowKit EdPure NtPure CsPure Cs
theorem good_nil (n : Int) : GoodN n [] := ⟨GoodM.nil, by simp, by simp [allW]⟩
theorem tail_nil (i : Int) : tailZ [] i = -1 := by unfold tailZ endV; split <;> simp
theorem head_nil (i : Int) : headZ [] i = -1 := tail_nil _
theorem cap_nil (i : Int) : capZ [] i = 0 := by unfold capZ wtV; split <;> simp
/-- How often each arc came, in the row C, which is younger than W1. -/
def PairSt (W W1 : World) (C m : Nat) (D : List Nat) (wr : World) : Prop :=
  Below W.heap.size W wr ∧ Below W1.heap.size W1 wr ∧ (W1.heap.size ≤ C ∧ W.heap.size ≤ W1.heap.size) ∧ RowIs C wr ((cntL m D).map encZ) ∧ C < wr.heap.size
theorem PairSt.on {W W1 wr w' : World} {C m : Nat} {D : List Nat} (h : PairSt W W1 C m D wr) (hb : Below wr.heap.size wr w') : PairSt W W1 C m D w' :=
  ⟨h.1.trans (hb.mono h.1.size), h.2.1.trans (hb.mono h.2.1.size), h.2.2.1, h.2.2.2.1.on hb h.2.2.2.2, Nat.lt_of_lt_of_le h.2.2.2.2 hb.size⟩
def InSt (W W1 : World) (C m : Nat) (w3 : World) (D : List Nat) (wr : World) : Prop := PairSt W W1 C m D wr ∧ Turn (fun k => k = C) w3 wr
theorem InSt.on {W W1 w3 wr w' : World} {C m : Nat} {D : List Nat} (h : InSt W W1 C m w3 D wr) (hb : Below wr.heap.size wr w') : InSt W W1 C m w3 D w' :=
  ⟨h.1.on hb, h.2.trans (Turn.ofBelow (O := fun k => k = C) hb) (fun _ e => Or.inl e)⟩
theorem InSt.at {W W1 w3 wr : World} {C m : Nat} {D : List Nat} (h : InSt W W1 C m w3 D wr) {x : Nat} (hx : x < m) : wr.cell? ⟨C, x, none⟩ = some (.int .i64 (D.count x : Int)) ∧ wr.frozen? ⟨C, x, none⟩ = false := by
  have hl : x < ((cntL m D).map encZ).length := by rw [List.length_map, cntL_len]; exact hx
  obtain ⟨h1, h2⟩ := h.1.2.2.2.1 x hl
  rw [List.getElem_map, cntL_at D hx] at h1
  exact ⟨h1, h2⟩
theorem InSt.store {W W1 w3 wr : World} {C m : Nat} {D : List Nat} (h : InSt W W1 C m w3 D wr) {x : Nat} (hx : x < m) : InSt W W1 C m w3 (D ++ [x]) (wr.setCell ⟨C, x, none⟩ (.int .i64 ((D.count x : Int) + 1))) := by
  obtain ⟨⟨h1, h2, ⟨h3, h3'⟩, h4, h5⟩, ht⟩ := h
  refine ⟨⟨h1.setCell (p := ⟨C, x, none⟩) (show W.heap.size ≤ C by omega) _, h2.setCell (p := ⟨C, x, none⟩) h3 _, ⟨h3, h3'⟩, ?_, by simpa using h5⟩, ht.trans (Turn.cell (O := fun k => k = C) wr x _ rfl) (fun x e => Or.inl e)⟩
  have := h4.set (k := x) (by rw [List.length_map, cntL_len]; exact hx) (.int .i64 ((D.count x : Int) + 1))
  rw [← cntL_set D hx, List.map_set]
  exact this
set_option maxRecDepth 100000 in
set_option maxHeartbeats 2000000 in
theorem walk_list (n : Int) (hn : (Lit.int .u8 n).wf = true) (a : Option Addr) (cap : Nat) (l : List Ed) (i : Int) (i0 : -9223372036854775808 ≤ i) (i9 : i ≤ 9223372036854775807) (W : World) (h1 : EdIn W a l) (_h2 : l.length ≤ maxLen) :
    Calls Try.prog 4 #[.int .u8 n, .slice a l.length cap, .int .i64 i] W fun r w' => r = .returned (.bool true) ∧ Below W.heap.size W w' := by
  obtain ⟨n0, n1⟩ : 0 ≤ n ∧ n ≤ 255 := bounds_u8 hn
  have HL := Lib.hid h1
  clear hn h1
  go_enter Try.func4, Try.ntmps4
  go_wp2_with fail
  refine (arcsN_any none 0 [] _ (ArcsAt.nil _)).mono ?_
  rintro e w1 ⟨rfl, hb1⟩
  have HB1 := Lib.hid hb1
  clear hb1
  go_wp2_with fail
  refine (arcsLen_any none 0 [] (by simp) _ (ArcsAt.nil _)).mono ?_
  rintro e w2 ⟨rfl, hb2⟩
  have HB2 := Lib.hid (HB1.out.trans (hb2.mono HB1.out.size))
  clear hb2 HB1
  go_wp2_with fail
  refine (arcsOut2_any none 0 [] (by omega) (good_nil _) (by simp) 0 (by omega) (by omega) w2 w2 (ArcsAt.nil _) (Below.refl _ _)).mono ?_
  rintro e w3 ⟨hb3, q3, c3, rfl, -, -⟩
  have HB3 := Lib.hid (HB2.out.trans (hb3.mono HB2.out.size))
  have z3 : (zN (outN [] 0 0)).length = 0 := rfl
  clear hb3 HB2
  go_wp2_with fail
  refine (arcsTail_any none 0 [] (by simp) i i0 i9 _ (ArcsAt.nil _)).mono ?_
  rw [tail_nil]
  rintro e w4 ⟨rfl, hb4⟩
  have HB4 := Lib.hid (HB3.out.trans (hb4.mono HB3.out.size))
  clear hb4 HB3
  go_wp2_with fail
  refine (arcsHead_any none 0 [] (by simp) i i0 i9 _ (ArcsAt.nil _)).mono ?_
  rw [head_nil]
  rintro e w5 ⟨rfl, hb5⟩
  have HB5 := Lib.hid (HB4.out.trans (hb5.mono HB4.out.size))
  clear hb5 HB4
  go_wp2_with fail
  refine (arcsCap_any none 0 [] (by simp) i i0 i9 _ (ArcsAt.nil _)).mono ?_
  rw [cap_nil]
  rintro e w6 ⟨rfl, hb6⟩
  have HB6 := Lib.hid (HB5.out.trans (hb6.mono HB5.out.size))
  clear hb6 HB5
  by_cases hlen : l.length ≤ 60
  · have i1 : ¬ (l.length : Int) > 60 := by omega
    have HNew := Lib.hid (newNet_any n a cap l HL.out.1 w6 (HL.out.2.over HB6.out (Nat.le_refl _)))
    obtain ⟨e1, e2, he⟩ : ∃ e1 e2, errN n l = (e1, e2) := ⟨_, _, rfl⟩
    unfold NewOut at HNew
    rw [he] at HNew
    simp only at HNew
    clear he
    go_wp2_with fail
    refine HNew.out.mono ?_
    rintro e w7 ⟨hb7, ⟨hz, rfl⟩ | ⟨hz, N, M, g0, hnN, hN, hG, hMl, -, -, rfl, hnt⟩⟩
    · have t1 : (e1 != 0) = true := by simpa using hz
      have HB7 := Lib.hid (HB6.out.trans (hb7.mono HB6.out.size))
      clear hb7 hz HNew HB6
      go_wp2_with fail
      refine (awake_any _).mono ?_
      rintro e w8 ⟨rfl, hb8⟩
      have HB8 := Lib.hid (HB7.out.trans (hb8.mono HB7.out.size))
      clear hb8
      go_wp2
      go_ret
      exact ⟨rfl, HB8.out⟩
    simp only [Prod.mk.injEq] at hz
    obtain ⟨rfl, rfl⟩ := hz
    have hM2 : M.length ≤ 60 := by omega
    have HM : Hid (M.length ≤ 10000) := Lib.hid (by omega)
    have HG := Lib.hid hG
    have HB7 := Lib.hid (HB6.out.trans (hb7.mono HB6.out.size))
    have HN7 := Lib.hid hnt
    clear hb7 hG hnt HNew HB6 hnN hMl
    go_wp2_with fail
    refine (newArcs_any (some ⟨g0, 0, none⟩) N M hN HG.out HM.out _ HN7.out).mono ?_
    rintro e w8 ⟨hb8, r, rfl, hr, hne⟩
    obtain ⟨g, rfl⟩ := hne (by simp)
    have HB8 := Lib.hid (HB7.out.trans (hb8.mono HB7.out.size))
    have HN8 := Lib.hid (HN7.out.over hb8)
    have HA8 := Lib.hid hr
    clear hb8 hr hne HB7 HN7
    obtain ⟨m, hm⟩ : ∃ m : Nat, 2 * M.length = m := ⟨_, rfl⟩
    have HLen := Lib.hid (arcsLen_any (some ⟨g, 0, none⟩) N M HM.out w8 HA8.out)
    rw [show 2 * (M.length : Int) = (m : Int) by omega] at HLen
    have hmb : m ≤ 120 := by omega
    have HMM := Lib.hid hm
    clear hm
    go_wp2_with fail
    refine HLen.out.mono ?_
    rintro e w9 ⟨rfl, hb9⟩
    have HB9 := Lib.hid (HB8.out.trans (hb9.mono HB8.out.size))
    have HN9 := Lib.hid (HN8.out.over hb9)
    have HA := Lib.hid (HA8.out.over hb9)
    clear hb9 HB8 HN8 HA8 HLen
    have hmk := makeRow (P := Try.prog) (T := 32) (E := 3) (z := .int .i64 0) (c := 8) Try.underlying32 (by kernel_rfl) (by decide) rfl m (by omega) w9
    have hbC : Below w9.heap.size w9 (w9.alloc (.cells (madeCells #[.int .i64 0] m) 3)) := (Below.refl _ _).alloc (Nat.le_refl _) _
    have HP0 : Hid (PairSt W w9 w9.heap.size m [] (w9.alloc (.cells (madeCells #[.int .i64 0] m) 3))) := Lib.hid
      ⟨HB9.out.trans (hbC.mono HB9.out.size), hbC, ⟨Nat.le_refl _, HB9.out.size⟩, by
        have h := rowIs_made w9 (.int .i64 0) m 3
        rw [cntL_nil, List.map_replicate]
        exact h, by simp⟩
    clear hbC
    go_wp2_with fail
    generalize w9.alloc (.cells (madeCells #[.int .i64 0] m) 3) = W2 at *
    generalize w9.heap.size = C at *
    go_loopw [13] (fun vi wr => ∃ v : Nat, vi = .int .i64 v ∧ v ≤ N ∧ Hid (PairSt W w9 C m (allO M N v) wr)) (fun vi _ => N - (intOf vi).toNat)
    case atStart => exact ⟨0, rfl, Nat.zero_le _, HP0⟩
    case round =>
      clear HP0 hmk
      obtain ⟨v, rfl, hv, HV⟩ := hrel
      go_wp2_with fail
      refine (arcsN_any (some ⟨g, 0, none⟩) N M _ (HA.out.over HV.out.2.1)).mono ?_
      rintro e x1 ⟨rfl, hc1⟩
      have HV1 := Lib.hid (HV.out.on hc1)
      clear hc1 HV
      by_cases hlt : v < N
      · have i2 : (v : Int) < (N : Int) := by omega
        go_wp2_with fail
        refine (arcsOut2_any (some ⟨g, 0, none⟩) N M hN HG.out HM.out (v : Int) (by omega) (by omega) w9 _ HA.out HV1.out.2.1).mono ?_
        rintro e x2 ⟨hc2, q, c, rfl, hrd, hap⟩
        have HV2 := Lib.hid (HV1.out.on hc2)
        have HRD := Lib.hid hrd
        have HAP : Hid (∀ z, q = some z → z.block ≠ C) := Lib.hid fun z hz e => by
          have h1 := HV1.out.2.2.1.1
          have h2 := HV1.out.2.2.2.2
          rcases hap z hz with h | h <;> omega
        have HI0 : Hid (InSt W w9 C m x2 (allO M N v ++ (outN M (v : Int) N).take 0) x2) := Lib.hid ⟨by rw [List.take_zero, List.append_nil]; exact HV2.out, Turn.refl _ _⟩
        clear hc2 hrd hap HV1 HV2
        rw [zN_len]
        go_wp2_with fail
        go_loopw [15] (fun ki wr => ∃ k : Nat, ki = .int .i64 k ∧ k ≤ (outN M (v : Int) N).length ∧ Hid (InSt W w9 C m x2 (allO M N v ++ (outN M (v : Int) N).take k) wr)) (fun ki _ => (outN M (v : Int) N).length - (intOf ki).toNat)
        case atStart => exact ⟨0, rfl, Nat.zero_le _, HI0⟩
        case round =>
          clear HI0
          obtain ⟨k, rfl, hk, HI0⟩ := hrel
          by_cases hlt2 : k < (outN M (v : Int) N).length
          · obtain ⟨x, hxe⟩ : ∃ x, (outN M (v : Int) N)[k] = x := ⟨_, rfl⟩
            have hxo : x ∈ outN M (v : Int) N := by rw [← hxe]; exact List.getElem_mem hlt2
            obtain ⟨f1, f2, f3, f4, f5, f6, f7⟩ := arc_facts HG.out hxo
            obtain ⟨z, hz⟩ : ∃ z, bkN x = z := ⟨_, rfl⟩
            obtain ⟨cz, hcz⟩ : ∃ cz, capZ M (x : Int) = cz := ⟨_, rfl⟩
            rw [hz] at f3 f4 f5 f6 f7
            rw [hcz] at f6
            have HX := Lib.hid (And.intro f2 (And.intro f3 (And.intro f4 (And.intro f5 (And.intro hcz f6)))))
            have hxm : x < m := by have := HMM.out; omega
            have hzm : z < m := by have := HMM.out; omega
            have HXE := Lib.hid hxe
            have HD : Hid ((allO M N v ++ (outN M (v : Int) N).take k) ++ [x] = allO M N v ++ (outN M (v : Int) N).take (k + 1)) := Lib.hid (by rw [List.take_succ_eq_append_getElem hlt2, hxe, List.append_assoc])
            have HCB : Hid ((allO M N v ++ (outN M (v : Int) N).take k).count x ≤ 100000) := Lib.hid (by
              have g1 := all_count HG.out f1 v
              have g2 := (List.take_sublist k (outN M (v : Int) N)).count_le x
              have g3 := nodup_count (out_nodup HG.out.1 (v : Int) N) hxo
              rw [List.count_append]
              split at g1 <;> omega)
            have HOL := Lib.hid (out_len HG.out.1 (v : Int) N)
            obtain ⟨b, off, hq, hbN, hc⟩ : ∃ b off, q = some ⟨b, off, none⟩ ∧ b < x2.heap.size ∧ ∀ j (hj : j < (zN (outN M (v : Int) N)).length), x2.cell? ⟨b, off + j, none⟩ = some (encZ (zN (outN M (v : Int) N))[j]) := by
              rcases HRD.out with h | h
              · have := congrArg List.length h
                rw [zN_len] at this
                simp only [List.length_nil] at this
                omega
              · exact h
            subst hq
            have hbC := HAP.out _ rfl
            have HCELL : Hid (∀ W', Turn (fun k => k = C) x2 W' → ∀ j (hj : j < (outN M (v : Int) N).length), W'.cell? ⟨b, off + j, none⟩ = some (.int .i64 (((outN M (v : Int) N)[j] : Nat) : Int))) := Lib.hid fun W' ht j hj => by
              have h1 := World.cell?_of_block (a := ⟨b, off + j, none⟩) (ht.2.2.2.2 b hbN hbC)
              rw [h1, hc j (by rw [zN_len]; exact hj)]
              unfold zN encZ
              rw [List.getElem_map]
            have hcell := HCELL.out _ HI0.out.2 k hlt2
            rw [hxe] at hcell
            have i3 : (k : Int) < ((outN M (v : Int) N).length : Int) := by omega
            have i4 : (x : Int) < (m : Int) := by omega
            have q0 : ¬ (x : Int) < 0 := by omega
            have hob := HOL.out
            clear hxe hxo f1 f2 f3 f4 f5 f6 f7 hz hcz hc HOL
            go_wp2_with fail
            refine (arcsTail_any (some ⟨g, 0, none⟩) N M HM.out (x : Int) (by omega) (by omega) _ (HA.out.over HI0.out.1.2.1)).mono ?_
            rw [HX.out.1]
            rintro e y0 ⟨rfl, hb0⟩
            have HI1 := Lib.hid (HI0.out.on hb0)
            clear hb0 HI0
            go_wp2_with fail
            refine (back_any (x : Int) (by omega) (by omega) _).mono ?_
            rw [HX.out.2.1]
            rintro e y1 ⟨rfl, hb1⟩
            have HI2 := Lib.hid (HI1.out.on hb1)
            clear hb1 HI1
            go_wp2_with fail
            refine (back_any (z : Int) (by omega) (by omega) _).mono ?_
            rw [HX.out.2.2.1]
            rintro e y2 ⟨rfl, hb2⟩
            have HI3 := Lib.hid (HI2.out.on hb2)
            clear hb2 HI2
            go_wp2_with fail
            refine (back_any (x : Int) (by omega) (by omega) _).mono ?_
            rw [HX.out.2.1]
            rintro e y3 ⟨rfl, hb3⟩
            have HI4 := Lib.hid (HI3.out.on hb3)
            clear hb3 HI3
            go_wp2_with fail
            refine (arcsHead_any (some ⟨g, 0, none⟩) N M HM.out (z : Int) (by omega) (by omega) _ (HA.out.over HI4.out.1.2.1)).mono ?_
            rw [HX.out.2.2.2.1]
            rintro e y4 ⟨rfl, hb4⟩
            have HI5 := Lib.hid (HI4.out.on hb4)
            clear hb4 HI4
            go_wp2_with fail
            refine (arcsCap_any (some ⟨g, 0, none⟩) N M HM.out (x : Int) (by omega) (by omega) _ (HA.out.over HI5.out.1.2.1)).mono ?_
            rw [HX.out.2.2.2.2.1]
            rintro e y5 ⟨rfl, hb5⟩
            have HI6 := Lib.hid (HI5.out.on hb5)
            clear hb5 HI5
            go_wp2_with fail
            refine (back_any (x : Int) (by omega) (by omega) _).mono ?_
            rw [HX.out.2.1]
            rintro e y6 ⟨rfl, hb6⟩
            have HI7 := Lib.hid (HI6.out.on hb6)
            clear hb6 HI6
            go_wp2_with fail
            refine (arcsCap_any (some ⟨g, 0, none⟩) N M HM.out (z : Int) (by omega) (by omega) _ (HA.out.over HI7.out.1.2.1)).mono ?_
            rw [HX.out.2.2.2.2.2]
            rintro e y7 ⟨rfl, hb7⟩
            have HI8 := Lib.hid (HI7.out.on hb7)
            clear hb7 HI7
            by_cases hk0 : k = 0
            · have k0 : ¬ (k : Int) > 0 := by omega
              clear hk0
              obtain ⟨m0, mf⟩ := HI8.out.at hxm
              have HZ := Lib.hid (HI8.out.store hxm)
              rw [HD.out] at HZ
              have hcl := HI8.out.1.2.2.2.2
              generalize hcn : (allO M N v ++ (outN M (v : Int) N).take k).count x = cn at *
              have hcb : cn ≤ 100000 := HCB.out
              clear hcn HI8 HD HCB
              go_wp2
              go_roundw
              case rel => exact ⟨k + 1, by go_num, hlt2, HZ⟩
              case measure => (simp [intOf]; omega)
            · obtain ⟨k', hk'⟩ : ∃ k' : Nat, k = k' + 1 := ⟨k - 1, by omega⟩
              have k0 : (k : Int) > 0 := by omega
              have k1 : (k : Int) - 1 = (k' : Int) := by omega
              have hkl : k' < (outN M (v : Int) N).length := by omega
              have hprev := HCELL.out _ HI8.out.2 k' hkl
              have hnx : Hid (headZ M (((outN M (v : Int) N)[k'] : Nat) : Int) < headZ M (x : Int)) := Lib.hid (by
                have h := arc_next HG.out (v := (v : Int)) (k := k') (by omega)
                have e : (outN M (v : Int) N)[k' + 1]'(by omega) = x := by rw [← HXE.out]; congr 1; exact hk'.symm
                rw [e] at h; exact h)
              have hyb : (outN M (v : Int) N)[k'] < 2 * M.length := (arc_facts HG.out (List.getElem_mem hkl)).1
              have i5 : (k' : Int) < ((outN M (v : Int) N).length : Int) := by omega
              generalize (outN M (v : Int) N)[k'] = yy at *
              have HH1 := Lib.hid (fun w h => arcsHead_any (some ⟨g, 0, none⟩) N M HM.out (yy : Int) (by omega) (by omega) w h)
              have HH2 := Lib.hid (fun w h => arcsHead_any (some ⟨g, 0, none⟩) N M HM.out (x : Int) (by omega) (by omega) w h)
              have hd := hnx.out
              generalize headZ M (yy : Int) = h1 at *
              generalize headZ M (x : Int) = h2 at *
              clear hk0 hk' hnx
              go_wp2_with fail
              refine (HH1.out _ (HA.out.over HI8.out.1.2.1)).mono ?_
              rintro e y8 ⟨rfl, hb8⟩
              have HI9 := Lib.hid (HI8.out.on hb8)
              clear hb8 HI8
              go_wp2_with fail
              refine (HH2.out _ (HA.out.over HI9.out.1.2.1)).mono ?_
              rintro e y9 ⟨rfl, hb9⟩
              have HI10 := Lib.hid (HI9.out.on hb9)
              clear hb9 HI9
              obtain ⟨m0, mf⟩ := HI10.out.at hxm
              have HZ := Lib.hid (HI10.out.store hxm)
              rw [HD.out] at HZ
              have hcl := HI10.out.1.2.2.2.2
              generalize hcn : (allO M N v ++ (outN M (v : Int) N).take k).count x = cn at *
              have hcb : cn ≤ 100000 := HCB.out
              clear hcn HI10 HD HCB
              go_wp2
              go_roundw
              case rel => exact ⟨k + 1, by go_num, hlt2, HZ⟩
              case measure => (simp [intOf]; omega)
          · have hke : k = (outN M (v : Int) N).length := by omega
            have i4 : ¬ (k : Int) < ((outN M (v : Int) N).length : Int) := by omega
            have HZ := Lib.hid HI0.out.1
            rw [hke, List.take_length] at HZ
            clear hke HI0
            go_wp2
            go_roundw
            case rel => exact ⟨v + 1, by go_num, hlt, HZ⟩
            case measure => (simp [intOf]; omega)
      · have hve : v = N := by omega
        have i2 : ¬ (v : Int) < (N : Int) := by omega
        rw [hve] at HV1
        have HONE : Hid (∀ x (hx : x < m), x1.cell? ⟨C, x, none⟩ = some (.int .i64 1)) := Lib.hid fun x hx => by
          have hl : x < ((cntL m (allO M N N)).map encZ).length := by rw [List.length_map, cntL_len]; exact hx
          have h := (HV1.out.2.2.2.1 x hl).1
          have hm := HMM.out
          subst hm
          rw [List.getElem_map, all_one HG.out hx] at h
          exact h
        have HB1 := Lib.hid HV1.out.1
        have HN1 := Lib.hid (HN9.out.over HV1.out.2.1)
        clear hve HV1 HN9
        go_wp2_with fail
        go_loopw [17] (fun ki wr => ∃ k : Nat, ki = .int .i64 k ∧ k ≤ m ∧ wr = x1) (fun ki _ => m - (intOf ki).toNat)
        case atStart => exact ⟨0, rfl, Nat.zero_le _, rfl⟩
        case round =>
          obtain ⟨k, rfl, hk, rfl⟩ := hrel
          by_cases hlt2 : k < m
          · have i3 : (k : Int) < (m : Int) := by omega
            have hcell := HONE.out k hlt2
            go_wp2
            go_roundw
            case rel => exact ⟨k + 1, by go_num, hlt2, trivial⟩
            case measure => (simp [intOf]; omega)
          · have i3 : ¬ (k : Int) < (m : Int) := by omega
            have t9 : ((m : Int) == 2 * (M.length : Int)) = true := by rw [beq_iff_eq]; have := HMM.out; omega
            clear HONE
            go_wp2_with fail
            refine (cnt_any (some ⟨g0, 0, none⟩) N M _ HN1.out).mono ?_
            rintro e y2 ⟨rfl, hd2⟩
            have HB2 := Lib.hid (HB1.out.trans (hd2.mono HB1.out.size))
            clear hd2 HN1
            go_wp2_with fail
            refine (awake_any _).mono ?_
            rintro e y3 ⟨rfl, hd3⟩
            have HB3 := Lib.hid (HB2.out.trans (hd3.mono HB2.out.size))
            clear hd3
            go_wp2
            go_ret
            exact ⟨rfl, HB3.out⟩
  · have i1 : (l.length : Int) > 60 := by omega
    go_wp2_with fail
    refine (awake_any _).mono ?_
    rintro e w7 ⟨rfl, hb7⟩
    have HB7 := Lib.hid (HB6.out.trans (hb7.mono HB6.out.size))
    clear hb7
    go_wp2
    go_ret
    exact ⟨rfl, HB7.out⟩
theorem own : ownKnob Try.prog.godebug = none := by kernel_rfl
theorem laidOut : laidOutB Try.prog = true := by kernel_rfl
set_option maxRecDepth 100000 in
theorem lifted (os : Os) (started : os.Started) (H : Type) (enc : TypeId × Value → H) :
    ReturnsInHanded {} Try.checked os 4 .any (Rows.csrPairsSpec.pre6 enc Try.prog Try.f4 Rows.csrPairsRow.domain false) (Rows.csrPairsSpec.post enc Try.prog Try.f4 false true false false) := by
  refine returnsInHanded_of_change (C := Try.checked) own started (by kernel_rfl) Try.func4
    (ChangeSpec.witness6 (enc := enc) (C := Try.checked) false ⟨#[], #[.int .u8 0, .slice none 0 0, .int .i64 0], []⟩ 8 (by kernel_rfl) (by kernel_rfl) (by kernel_rfl) (by kernel_rfl)) ?_
  intro W base args ds gs before hval0 hW hcnd _
  have hval : ∀ (j : Nat) t v, Try.f4.params[j]? = some t → args[j]? = some v → Value.okWide Try.prog W .any base t v := hval0
  have hW' := hW
  obtain ⟨p, q, hA0, hV, rfl, hfz, hnd⟩ := hW
  have hA : DataW.TrodAll enc Try.prog W 0 (fun _ => true) true Try.f4.params.toList args.toList ds p := hA0
  rw [Try.params4] at hA hval
  obtain ⟨v0, vs0, d0, ds0, p0, q0, hargs, rfl, rfl, h0, r0⟩ := trodAll_cons hA
  obtain ⟨v1, vs1, d1, ds1, p1, q1, rfl, rfl, rfl, h1, r1⟩ := trodAll_cons r0
  obtain ⟨v2, vs2, d2, ds2, p2, q2, rfl, rfl, rfl, h2, r2⟩ := trodAll_cons r1
  obtain ⟨rfl, rfl, rfl⟩ := trodAll_nil r2
  obtain rfl : args = #[v0, v1, v2] := by cases args; simp_all
  obtain ⟨rfl, rfl⟩ := trodVars_none hV
  obtain ⟨a0, rfl, rfl, rfl, w0⟩ := open_int Try.underlying5 (hval 0 5 v0 rfl rfl) h0
  obtain ⟨a1, len1, cap1, rfl⟩ := okWide_slice Try.underlying22 (hval 1 22 v1 rfl rfl)
  have k1 := h1
  have lt1 : ∀ x ∈ p1, x.block < W.heap.size := by obtain ⟨m, hm⟩ := k1; exact DataW.trod_lt m _ _ _ hm
  obtain ⟨l1, hlen1, w1⟩ : ∃ l : List Ed, l.length = len1 ∧ EdIn W a1 l ∧ l.length ≤ maxLen := by
    obtain ⟨fuel, hf⟩ := h1
    exact open_edges hf
  subst hlen1
  obtain ⟨a2, rfl, rfl, rfl, w2⟩ := open_int Try.underlying3 (hval 2 3 v2 rfl rfl) h2
  clear hA0 hval0
  refine (walk_list a0 w0 a1 cap1 l1 a2 (bounds_i64 w2).1 (bounds_i64 w2).2 W w1.1 w1.2).mono fun e W' ⟨he, bel⟩ => ?_
  subst he
  exact ⟨_, rfl, _, _, _, [], _, [], hW', trodAll_mk1 (shut_bool Try.underlying4 _), (trodAll_cons_mk (shut_int Try.underlying5 w0) (trodAll_cons_mk (Below.trod laidOut (by kernel_rfl) (of_decide_eq_true (by kernel_rfl)) k1 bel lt1) (trodAll_cons_mk (shut_int Try.underlying3 w2) trodAll_mk0))), rfl, bel.frame _, fun h => by cases h⟩
theorem over : Rows.csrPairsRow.holds Try.pinned (OpenSpec.ofChange Rows.csrPairsSpec) :=
  OpenClaim.holds_of_wide 4 Try.f4 rfl rfl rfl rfl rfl rfl rfl ⟨rfl, rfl, rfl, rfl, rfl⟩ rfl rfl rfl rfl rfl (by kernel_rfl) Try.func4 (by kernel_rfl)
    (of_decide_eq_true (by kernel_rfl)) (by unfold Func.isWrapper; first | (rw [if_pos (by decide +kernel)]; kernel_rfl) | (rw [if_neg (by decide +kernel)]; exact ⟨rfl, rfl⟩))
    (fun os started H enc _ => lifted os started H enc)
/-- The statement. -/
theorem proved : Rows.CsrPairsSaid := over
#print axioms proved
end Go.Proofs.Ytaoocokcfppmaaa.csrPairs
