/- A graph's text is read as the graph; what is read of any text is printed, and read again as it was. Conditions: none: every number of vertices up to 255, every slice of edges, every text (of more than 100 edges, or more than 3000 bytes, the law asks only that the program prints graphs at all); the library's tables hold what the program's text lays there. -/
import Derived.Test.YtdbebebhldldmaaGreatDoorPk33
import Derived.Test.YtdbebebhldldmaaGreatDoorPk39
import Derived.Test.YtdbebebhldldmaaGreatDoorPk37
import Derived.Test.YtdbebebhldldmaaGreatDoorTie
import Derived.Test.YtdbebebhldldmaaGreatDoorCards
import Derived.ChangeSlices
import Derived.OpenShut
import Derived.ShutString
import Derived.SevenTiedAt
import Derived.ChangeOld
import Derived.Carry
namespace Go.Proofs.YtdbebebhldldmaaGreatDoor.gprintBack
open Go.ChangeShapes Go.WideShapes Go.ChangeAt Go.RowKit EdPure NtPure GrPure GpPure Gp
open Go.ChangeMaps (open_string shut_string)
theorem both_of_laid {W : World} (h : laidMetH Tryz.prog Rows.gprintTellsRow.laid W) : Ten W ∧ Tab64 W := ⟨ten_of_laid h, tab64_of_laid h⟩
/-- What stands from call to call. -/
def St (W w : World) : Prop := Below W.heap.size W w ∧ Ten w ∧ Tab64 w
theorem St.keep {W w w' : World} (h : St W w) (hb : Below w.heap.size w w') : St W w' := ⟨h.1.trans (hb.mono h.1.size), h.2.1.on hb, h.2.2.on hb⟩
theorem same_yes {g g2 : Nat} {N : Nat} {M : List Ed} : sameG (some ⟨g, 0, none⟩) (some ⟨g2, 0, none⟩) N N M M = true := by unfold sameG; simp
/-- Read's answer of a text that is a graph's. -/
theorem out_back {n : Nat} (hn : n ≤ 4096) {M : List Ed} (h : GoodN n M) {k : Nat} (hc : cntL M ≤ k) (hk : k ≤ 10000) {w w' : World} {e : Ending} (ho : Gr.OutR (textP n (splitL M)) w e w') :
    Below w.heap.size w w' ∧ ∃ g, e = .returned (.tuple #[.pointer (some ⟨g, 0, none⟩), .int .i64 0, .int .i64 0]) ∧ NetAt (some ⟨g, 0, none⟩) n M w' := by
  obtain ⟨h1, h2, h3, -⟩ := back_all hn h hc (by omega)
  obtain ⟨hb, p, N, M', rfl, hnt, -, ⟨hz, -⟩ | ⟨⟨hz, hz2⟩, ⟨g, rfl⟩, hN, hm⟩⟩ := ho
  · exact absurd h1 hz
  · obtain rfl : M' = M := Option.some.inj (hm.symm.trans h3)
    obtain rfl : N = n := by omega
    exact ⟨hb, g, by rw [hz, hz2], hnt⟩
set_option maxRecDepth 100000 in
set_option maxHeartbeats 1000000 in
theorem walk (W : World) (n : Int) (hn : (Lit.int .u8 n).wf = true) (a : Option Addr) (cap : Nat) (l : List Ed) (h1 : EdIn W a l) (_h2 : l.length ≤ maxLen) (s : ByteArray) (hs : s.size ≤ maxLen) (hT : Ten W ∧ Tab64 W) :
    Calls Tryz.prog 5 #[.int .u8 n, .slice a l.length cap, .string s] W fun r w' => r = .returned (.bool true) ∧ Below W.heap.size W w' := by
  obtain ⟨n0, n1⟩ : 0 ≤ n ∧ n ≤ 255 := bounds_u8 hn
  have hm : s.size ≤ 9223372036854775807 := by unfold maxLen at hs; omega
  have HAW := Lib.hid (fun w hT hF => awake_any w hT hF)
  have HT : Hid (St W W) := Lib.hid ⟨Below.refl _ _, hT⟩
  clear hT hn hs
  by_cases hlen : l.length ≤ 100
  · have i1 : ¬ (l.length : Int) > 100 := by omega
    by_cases hsz : s.size ≤ 3000
    · have HNew := Lib.hid (newU_any n a cap l h1.1 W h1.2)
      obtain ⟨e1, e2, he⟩ : ∃ e1 e2, errN n l = (e1, e2) := ⟨_, _, rfl⟩
      have HEQ := Lib.hid he
      unfold NewU Kind at HNew
      rw [he] at HNew
      simp only at HNew
      have HRD := Lib.hid (fun w => progRead_any s (by omega) w)
      have HSL : Hid (s.data.toList.length ≤ 3000) := Lib.hid (by rw [← Lib.size_eq]; exact hsz)
      clear h1 he
      go_enter Tryz.func5, Tryz.ntmps5
      go_wp2_with fail
      refine HNew.out.mono ?_
      rintro e w1 ⟨hb1, p, N, M, rfl, hnt, ⟨hN, hM, hG⟩, ⟨hz, rfl, rfl, rfl⟩ | ⟨hz, ⟨g, rfl⟩, hnN, hm⟩⟩
      · have t1 : (e1 == 0) = false := by simpa using hz
        have HS := Lib.hid (HT.out.keep hb1)
        clear hnt hN hM hG HNew hb1 hz HT
        go_wp2_with fail
        refine (HRD.out _).mono ?_
        rintro e v1 ⟨hc1, p', N', M', rfl, hnt', ⟨hN', -, hG'⟩, ⟨hz', rfl, rfl, rfl⟩ | ⟨⟨hz', hz2'⟩, ⟨ga, rfl⟩, hnN', hm'⟩⟩
        · have t2 : ((GrPure.readR s.data.toList).1 != 0) = true := by simpa using hz'
          have HV := Lib.hid (HS.out.keep hc1)
          clear hc1 hnt' hN' hG' hz' HRD HS
          generalize (GrPure.readR s.data.toList).1 = zz at *
          generalize (GrPure.readR s.data.toList).2.1 = aa at *
          go_wp2_with fail
          refine (HAW.out _ HV.out.2.1 HV.out.2.2).mono ?_
          rintro e v2 ⟨rfl, hc2⟩
          have HV2 := Lib.hid (HV.out.keep hc2)
          clear hc2
          go_wp2
          go_ret
          exact ⟨rfl, HV2.out.1⟩
        have HV1 := Lib.hid (HS.out.keep hc1)
        have HNA := Lib.hid hnt'
        have hfew := read_few hz'
        have hsl := HSL.out
        obtain ⟨r1, r2, -⟩ := cnt_small hfew.2.1.2 hfew.2.2 (by omega) hm'
        have r3 : cntL M' ≤ 6000 := by omega
        have r4 : M'.length ≤ 3000 := by omega
        have HP2 : Hid (∀ (g : Nat) (w : World), NetAt (some ⟨g, 0, none⟩) N' M' w → Ten w → Calls Tryz.prog 8 #[.pointer (some ⟨g, 0, none⟩)] w fun e w' => e = .returned (.string ⟨(textP (N' : Int) (splitL M')).toArray⟩) ∧ Below w.heap.size w w') :=
          Lib.hid (fun g w hn hT => progPrint_any (some ⟨g, 0, none⟩) N' M' hN' hG' (by omega) (by omega) w hn hT)
        have hts := (back_all hN' hG' r3 (by omega)).2.2.2
        have HRT' := Lib.hid (fun w => (progRead_any ⟨(textP (N' : Int) (splitL M')).toArray⟩ (by show (textP (N' : Int) (splitL M')).toArray.size ≤ _; rw [List.size_toArray]; omega) w).mono fun e w' ho => out_back hN' hG' r3 (by omega) ho)
        rw [hz', hz2']
        generalize (⟨(textP (N' : Int) (splitL M')).toArray⟩ : ByteArray) = B2 at *
        clear hc1 hnt' hfew hsl hts hz' hz2' hnN' hm' HS HRD r1
        go_wp2_with fail
        refine (HP2.out ga _ HNA.out HV1.out.2.1).mono ?_
        rintro e v2 ⟨rfl, hc2⟩
        have HV2 := Lib.hid (HV1.out.keep hc2)
        have HNA2 := Lib.hid (HNA.out.over hc2)
        clear hc2 HV1 HNA
        go_wp2_with fail
        refine (HRT'.out _).mono ?_
        rintro e v3 ⟨hc3, gb, rfl, hnb⟩
        have HV3 := Lib.hid (HV2.out.keep hc3)
        have HNB := Lib.hid hnb
        have HSM' := Lib.hid (sameN_any (some ⟨ga, 0, none⟩) (some ⟨gb, 0, none⟩) N' N' M' M' (by omega) (by omega) hN' hN' v3 (HNA2.out.over hc3) hnb)
        rw [same_yes] at HSM'
        clear hc3 hnb HV2 HNA2 HRT'
        go_wp2_with fail
        refine HSM'.out.mono ?_
        rintro e v4 ⟨rfl, hc4⟩
        have HV4 := Lib.hid (HV3.out.keep hc4)
        have HNB4 := Lib.hid (HNB.out.over hc4)
        clear hc4 HV3 HNB HSM'
        go_wp2_with fail
        refine (HP2.out gb _ HNB4.out HV4.out.2.1).mono ?_
        rintro e v5 ⟨rfl, hc5⟩
        have HV5 := Lib.hid (HV4.out.keep hc5)
        clear hc5 HV4 HNB4 HP2
        go_wp2_with fail
        refine (HAW.out _ HV5.out.2.1 HV5.out.2.2).mono ?_
        rintro e v6 ⟨rfl, hc6⟩
        have HV6 := Lib.hid (HV5.out.keep hc6)
        clear hc6
        go_wp2
        go_ret
        exact ⟨rfl, HV6.out.1⟩
      simp only [Prod.mk.injEq] at hz
      obtain ⟨rfl, rfl⟩ := hz
      have hz := HEQ.out
      have hchk : ∀ e ∈ l, chkE n e = 0 := by
        have h := congrArg (·.1) hz
        unfold errN at h
        rw [if_neg (by omega), if_neg (by omega)] at h
        exact chkL_good h
      obtain ⟨s1, s2, -⟩ := cnt_small (by omega) hchk (by omega) hm
      have HS0 := Lib.hid (HT.out.keep hb1)
      have HP1 := Lib.hid (fun w hn hT => progPrint_any (some ⟨g, 0, none⟩) N M hN hG (by omega) (by omega) w hn hT)
      rw [show prP (some ⟨g, 0, none⟩) N M = textP N (splitL M) from rfl] at HP1
      have hts := (back_all hN hG s1 (by omega)).2.2.2
      have HRT := Lib.hid (fun w => (progRead_any ⟨(textP (N : Int) (splitL M)).toArray⟩ (by show (textP (N : Int) (splitL M)).toArray.size ≤ _; rw [List.size_toArray]; omega) w).mono fun e w' ho => out_back hN hG s1 (by omega) ho)
      have HN1 := Lib.hid hnt
      generalize (⟨(textP (N : Int) (splitL M)).toArray⟩ : ByteArray) = B1 at *
      clear hb1 hnt hm hchk hnN hts hz HNew HT s1
      go_wp2_with fail
      refine (HP1.out _ HN1.out HS0.out.2.1).mono ?_
      rintro e w2 ⟨rfl, hb2⟩
      have HS1 := Lib.hid (HS0.out.keep hb2)
      have HN2 := Lib.hid (HN1.out.over hb2)
      clear hb2 HS0 HN1 HP1
      go_wp2_with fail
      refine (HRT.out _).mono ?_
      rintro e w3 ⟨hb3, g2, rfl, hn3⟩
      have HS2 := Lib.hid (HS1.out.keep hb3)
      have HN3 := Lib.hid (HN2.out.over hb3)
      have HSM := Lib.hid (sameN_any (some ⟨g, 0, none⟩) (some ⟨g2, 0, none⟩) N N M M (by omega) (by omega) hN hN w3 HN3.out hn3)
      rw [same_yes] at HSM
      clear hb3 hn3 HS1 HN2 HRT
      go_wp2_with fail
      refine HSM.out.mono ?_
      rintro e w4 ⟨rfl, hb4⟩
      have HS := Lib.hid (HS2.out.keep hb4)
      clear hb4 HS2 HSM HN3
      go_wp2_with fail
      refine (HRD.out _).mono ?_
      rintro e v1 ⟨hc1, p', N', M', rfl, hnt', ⟨hN', -, hG'⟩, ⟨hz', rfl, rfl, rfl⟩ | ⟨⟨hz', hz2'⟩, ⟨ga, rfl⟩, hnN', hm'⟩⟩
      · have t2 : ((GrPure.readR s.data.toList).1 != 0) = true := by simpa using hz'
        have HV := Lib.hid (HS.out.keep hc1)
        clear hc1 hnt' hN' hG' hz' HRD HS
        generalize (GrPure.readR s.data.toList).1 = zz at *
        generalize (GrPure.readR s.data.toList).2.1 = aa at *
        go_wp2_with fail
        refine (HAW.out _ HV.out.2.1 HV.out.2.2).mono ?_
        rintro e v2 ⟨rfl, hc2⟩
        have HV2 := Lib.hid (HV.out.keep hc2)
        clear hc2
        go_wp2
        go_ret
        exact ⟨rfl, HV2.out.1⟩
      have HV1 := Lib.hid (HS.out.keep hc1)
      have HNA := Lib.hid hnt'
      have hfew := read_few hz'
      have hsl := HSL.out
      obtain ⟨r1, r2, -⟩ := cnt_small hfew.2.1.2 hfew.2.2 (by omega) hm'
      have r3 : cntL M' ≤ 6000 := by omega
      have r4 : M'.length ≤ 3000 := by omega
      have HP2 : Hid (∀ (g : Nat) (w : World), NetAt (some ⟨g, 0, none⟩) N' M' w → Ten w → Calls Tryz.prog 8 #[.pointer (some ⟨g, 0, none⟩)] w fun e w' => e = .returned (.string ⟨(textP (N' : Int) (splitL M')).toArray⟩) ∧ Below w.heap.size w w') :=
        Lib.hid (fun g w hn hT => progPrint_any (some ⟨g, 0, none⟩) N' M' hN' hG' (by omega) (by omega) w hn hT)
      have hts := (back_all hN' hG' r3 (by omega)).2.2.2
      have HRT' := Lib.hid (fun w => (progRead_any ⟨(textP (N' : Int) (splitL M')).toArray⟩ (by show (textP (N' : Int) (splitL M')).toArray.size ≤ _; rw [List.size_toArray]; omega) w).mono fun e w' ho => out_back hN' hG' r3 (by omega) ho)
      rw [hz', hz2']
      generalize (⟨(textP (N' : Int) (splitL M')).toArray⟩ : ByteArray) = B2 at *
      clear hc1 hnt' hfew hsl hts hz' hz2' hnN' hm' HS HRD r1
      go_wp2_with fail
      refine (HP2.out ga _ HNA.out HV1.out.2.1).mono ?_
      rintro e v2 ⟨rfl, hc2⟩
      have HV2 := Lib.hid (HV1.out.keep hc2)
      have HNA2 := Lib.hid (HNA.out.over hc2)
      clear hc2 HV1 HNA
      go_wp2_with fail
      refine (HRT'.out _).mono ?_
      rintro e v3 ⟨hc3, gb, rfl, hnb⟩
      have HV3 := Lib.hid (HV2.out.keep hc3)
      have HNB := Lib.hid hnb
      have HSM' := Lib.hid (sameN_any (some ⟨ga, 0, none⟩) (some ⟨gb, 0, none⟩) N' N' M' M' (by omega) (by omega) hN' hN' v3 (HNA2.out.over hc3) hnb)
      rw [same_yes] at HSM'
      clear hc3 hnb HV2 HNA2 HRT'
      go_wp2_with fail
      refine HSM'.out.mono ?_
      rintro e v4 ⟨rfl, hc4⟩
      have HV4 := Lib.hid (HV3.out.keep hc4)
      have HNB4 := Lib.hid (HNB.out.over hc4)
      clear hc4 HV3 HNB HSM'
      go_wp2_with fail
      refine (HP2.out gb _ HNB4.out HV4.out.2.1).mono ?_
      rintro e v5 ⟨rfl, hc5⟩
      have HV5 := Lib.hid (HV4.out.keep hc5)
      clear hc5 HV4 HNB4 HP2
      go_wp2_with fail
      refine (HAW.out _ HV5.out.2.1 HV5.out.2.2).mono ?_
      rintro e v6 ⟨rfl, hc6⟩
      have HV6 := Lib.hid (HV5.out.keep hc6)
      clear hc6
      go_wp2
      go_ret
      exact ⟨rfl, HV6.out.1⟩
    · have i2 : ¬ (s.size : Int) ≤ 3000 := by omega
      go_enter Tryz.func5, Tryz.ntmps5
      go_wp2_with fail
      refine (HAW.out _ HT.out.2.1 HT.out.2.2).mono ?_
      rintro e w1 ⟨rfl, hb1⟩
      have HB := Lib.hid hb1
      clear hb1
      go_wp2
      go_ret
      exact ⟨rfl, HB.out⟩
  · have i1 : (l.length : Int) > 100 := by omega
    go_enter Tryz.func5, Tryz.ntmps5
    go_wp2_with fail
    refine (HAW.out _ HT.out.2.1 HT.out.2.2).mono ?_
    rintro e w1 ⟨rfl, hb1⟩
    have HB := Lib.hid hb1
    clear hb1
    go_wp2
    go_ret
    exact ⟨rfl, HB.out⟩
theorem own : ownKnob Tryz.prog.godebug = none := by kernel_rfl
theorem laidOut : laidOutB Tryz.prog = true := by kernel_rfl
set_option maxRecDepth 100000 in
theorem lifted (os : Os) (started : os.Started) (H : Type) (enc : TypeId × Value → H) :
    ReturnsInHanded {} Tryz.checked os 5 .any (fun w args => (Rows.gprintBackSpec.pre enc Tryz.prog Tryz.f5 [] false w args ∧ laidMetH Tryz.prog Rows.gprintTellsRow.laid w) ∧ sizedMet enc Tryz.prog Tryz.f5 (OpenSpec.ofChange Rows.gprintBackSpec) false w args)
      (Rows.gprintBackSpec.post enc Tryz.prog Tryz.f5 false true false false) := by
  refine returnsInHanded_of_change_and (C := Tryz.checked) (X := fun w _ => laidMetH Tryz.prog Rows.gprintTellsRow.laid w) (fun _ _ _ hh h => h.of_heap hh) own started (by kernel_rfl) Tryz.func5
    (ChangeSpec.witness_at (enc := enc) (C := Tryz.checked) (os := os) (X := fun w _ => laidMetH Tryz.prog Rows.gprintTellsRow.laid w) false (laidWorld Tryz.prog os) #[.int .u8 0, .slice none 0 0, .string ⟨#[]⟩] 8 rfl (by kernel_rfl) (by kernel_rfl) (by kernel_rfl) (by kernel_rfl) (by kernel_rfl) (laid_met os _)) ?_
  intro W base args ds gs before hval0 hW _ _ hL _
  have hval : ∀ (j : Nat) t v, Tryz.f5.params[j]? = some t → args[j]? = some v → Value.okWide Tryz.prog W .any base t v := hval0
  have hW' := hW
  obtain ⟨p, q, hA0, hV, rfl, hfz, hnd⟩ := hW
  have hA : DataW.TrodAll enc Tryz.prog W 0 (fun _ => true) true Tryz.f5.params.toList args.toList ds p := hA0
  rw [Tryz.params5] at hA hval
  obtain ⟨v0, vs0, d0, ds0, p0, q0, hargs, rfl, rfl, h0, r0⟩ := trodAll_cons hA
  obtain ⟨v1, vs1, d1, ds1, p1, q1, rfl, rfl, rfl, h1, r1⟩ := trodAll_cons r0
  obtain ⟨v2, vs2, d2, ds2, p2, q2, rfl, rfl, rfl, h2, r2⟩ := trodAll_cons r1
  obtain ⟨rfl, rfl, rfl⟩ := trodAll_nil r2
  obtain rfl : args = #[v0, v1, v2] := by cases args; simp_all
  obtain ⟨rfl, rfl⟩ := trodVars_none hV
  obtain ⟨a0, rfl, rfl, rfl, w0⟩ := open_int Tryz.underlying5 (hval 0 5 v0 rfl rfl) h0
  obtain ⟨a1, len1, cap1, rfl⟩ := okWide_slice Tryz.underlying22 (hval 1 22 v1 rfl rfl)
  have k1 := h1
  have lt1 : ∀ x ∈ p1, x.block < W.heap.size := by obtain ⟨m, hm⟩ := k1; exact DataW.trod_lt m _ _ _ hm
  obtain ⟨l1, hlen1, w1⟩ : ∃ l : List Ed, l.length = len1 ∧ EdIn W a1 l ∧ l.length ≤ maxLen := by
    obtain ⟨fuel, hf⟩ := h1
    exact open_edges hf
  subst hlen1
  obtain ⟨a2, rfl, rfl, rfl, w2⟩ := open_string Tryz.underlying9 (hval 2 9 v2 rfl rfl) h2
  clear hA0 hval0
  refine (walk W a0 w0 a1 cap1 l1 w1.1 w1.2 a2 w2 (both_of_laid hL)).mono fun e W' ⟨he, bel⟩ => ?_
  subst he
  exact ⟨_, rfl, _, _, _, [], _, [], hW', trodAll_mk1 (shut_bool Tryz.underlying4 _), (trodAll_cons_mk (shut_int Tryz.underlying5 w0) (trodAll_cons_mk (Below.trod laidOut (by kernel_rfl) (of_decide_eq_true (by kernel_rfl)) k1 bel lt1) (trodAll_cons_mk (shut_string Tryz.underlying9 w2) trodAll_mk0))), rfl, bel.frame _, fun h => by cases h⟩
theorem over : Rows.gprintBackRow.holds Tryz.pinned (OpenSpec.ofChange Rows.gprintBackSpec) :=
  OpenClaim.holds_of_wide 5 Tryz.f5 rfl rfl rfl rfl rfl rfl rfl ⟨rfl, rfl, rfl, rfl, rfl⟩ rfl rfl rfl rfl rfl (by kernel_rfl) Tryz.func5 (by kernel_rfl)
    (of_decide_eq_true (by kernel_rfl)) (by unfold Func.isWrapper; first | (rw [if_pos (by decide +kernel)]; kernel_rfl) | (rw [if_neg (by decide +kernel)]; exact ⟨rfl, rfl⟩))
    (fun os started H enc _ => lifted os started H enc)
/-- The statement: the tied card. -/
theorem proved : Rows.GprintBackCardSaid :=
  Claim7.holds_tied_plain_at .later [] [.data, .data, .data] true Rows.gprintBackCard.stood.harness Rows.gprintBackCard.stood.looks
    over (fun _ h => by cases h) (by kernel_rfl) (fun _ h => by cases h) gprintBack_row_tie rfl ⟨rfl, rfl⟩ (by kernel_rfl) rfl
    (fun f fn hf hfn => by
      obtain rfl : f = 5 := Option.some.inj ((show Tryz.prog.funcNamed Rows.gprintBackRow.func = some 5 by kernel_rfl).symm.trans hf) |>.symm
      obtain rfl : fn = Tryz.f5 := (Option.some.inj (Tryz.func5.symm.trans hfn)).symm
      exact ⟨by kernel_rfl, fun j t ht => by
        rw [Tryz.params5] at ht
        have hall : ∀ t ∈ #[5, 22, 9], Tryz.prog.wantsStandIn t = false := by decide +kernel
        exact hall t (Array.mem_of_getElem? ht)⟩)
    (by kernel_rfl)
#print axioms proved
end Go.Proofs.YtdbebebhldldmaaGreatDoor.gprintBack
