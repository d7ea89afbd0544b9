/- The three texts of any graph are what the document says; of none they are empty. Conditions: none: every number of vertices up to 255, every slice of edges (of more than 100 the law asks only that the program prints graphs at all); the library's tables hold what the program's text lays there. -/
import Derived.Test.YtdbebebhldldmaaGreatDoorPk33
import Derived.Test.YtdbebebhldldmaaGreatDoorPk37
import Derived.Test.YtdbebebhldldmaaGreatDoorTie
import Derived.Test.YtdbebebhldldmaaGreatDoorCards
import Derived.ChangeSlices
import Derived.OpenShut
import Derived.ShutString
import Derived.SevenTiedAt
import Derived.ChangeOld
import Derived.Carry
namespace Go.Proofs.YtdbebebhldldmaaGreatDoor.gprintTells
open Go.ChangeShapes Go.WideShapes Go.ChangeAt Go.RowKit EdPure NtPure GpPure Gp
theorem both_of_laid {W : World} (h : laidMetH Tryz.prog Rows.gprintTellsRow.laid W) : Ten W ∧ Tab64 W := ⟨ten_of_laid h, tab64_of_laid h⟩
theorem two_all {N : Nat} {w : World} {u v : Value} (h : TwoAt N w u v) : w.cell? ⟨N, 0, none⟩ = some u ∧ w.cell? ⟨N, 1, none⟩ = some v := ⟨h.1, h.2.1⟩
@[go_sem] theorem made_g (x y z u : Value) (w : World) : (Instr.field 32 (.agg #[x, y, z, u]) 0).run Tryz.prog w = .ok (.agg #[x, y]) w := by kernel_rfl
def TellSt (w : World) (X : Nat) (q : Option Addr) (c N : Nat) (M : List Ed) (g : Nat) (W : World) : Prop :=
  Below w.heap.size w W ∧ TwoAt X W (.int .i64 (N : Int)) (.slice q M.length c) ∧ NetAt (some ⟨g, 0, none⟩) N M W ∧ ReadsE W.heap.size W q M ∧ Ten W ∧ Tab64 W
theorem TellSt.keep {w W W' : World} {X : Nat} {q : Option Addr} {c N : Nat} {M : List Ed} {g : Nat} (h : TellSt w X q c N M g W) (hb : Below W.heap.size W W') : TellSt w X q c N M g W' :=
  ⟨h.1.trans (hb.mono h.1.size), h.2.1.on hb h.2.1.lt, h.2.2.1.over hb, h.2.2.2.1.over hb (Nat.le_refl _), h.2.2.2.2.1.on hb, h.2.2.2.2.2.on hb⟩
set_option maxRecDepth 100000 in
set_option maxHeartbeats 1000000 in
theorem walk (W : World) (n : Int) (hn : (Lit.int .u8 n).wf = true) (a : Option Addr) (cap : Nat) (l : List Ed) (h1 : EdIn W a l) (_h2 : l.length ≤ maxLen) (hT : Ten W ∧ Tab64 W) :
    Calls Tryz.prog 3 #[.int .u8 n, .slice a l.length cap] W fun r w' => r = .returned (.bool true) ∧ Below W.heap.size W w' := by
  obtain ⟨n0, n1⟩ : 0 ≤ n ∧ n ≤ 255 := bounds_u8 hn
  have HAW := Lib.hid (fun w hT hF => awake_any w hT hF)
  have HT := Lib.hid hT
  clear hT hn
  by_cases hlen : l.length ≤ 100
  · have i1 : ¬ (l.length : Int) > 100 := by omega
    have HNew := Lib.hid (newU_any n a cap l h1.1 W h1.2)
    have HRe := Lib.hid (fun w hR => refU_any n a cap l (by omega) h1.1 w hR)
    have HL := Lib.hid h1.2
    have HI := Lib.hid h1.1
    obtain ⟨e1, e2, he⟩ : ∃ e1 e2, errN n l = (e1, e2) := ⟨_, _, rfl⟩
    have HEQ := Lib.hid he
    unfold NewU Kind at HNew
    unfold RefU at HRe
    rw [he] at HNew HRe
    simp only at HNew HRe
    clear h1 he
    go_enter Tryz.func3, Tryz.ntmps3
    go_wp2_with fail
    refine HNew.out.mono ?_
    rintro e w1 ⟨hb1, p, N, M, rfl, hnt, ⟨hN, hM, hG⟩, ⟨hz, rfl, rfl, rfl⟩ | ⟨hz, ⟨g, rfl⟩, hnN, hm⟩⟩
    · have HB1 := Lib.hid hb1
      have HT1 := Lib.hid (HT.out.1.on hb1)
      have HF1 := Lib.hid (HT.out.2.on hb1)
      clear hnt hN hM hG HRe HNew hb1
      have t1 : (e1 != 0) = true := by simpa using hz
      clear hz
      have HP1 := Lib.hid (fun w hT => progPrint_any none 0 [] (by omega) (GoodN.nil _) (by simp) (by decide) w (NetAt.nil w) hT)
      have HP2 := Lib.hid (fun w hT => progDot_any none 0 [] (by omega) (GoodN.nil _) (by simp) w (NetAt.nil w) hT)
      have HP3 := Lib.hid (fun w hT => progRows_any none 0 [] (by omega) (GoodN.nil _) (by simp) w (NetAt.nil w) hT)
      go_wp2_with fail
      refine (HP1.out _ HT1.out).mono ?_
      rintro e w2 ⟨rfl, hb2⟩
      have HB2 := Lib.hid (HB1.out.trans (hb2.mono HB1.out.size))
      have HT2 := Lib.hid (HT1.out.on hb2)
      have HF2 := Lib.hid (HF1.out.on hb2)
      clear hb2 HP1 HB1 HT1 HF1
      go_wp2_with fail
      refine (HP2.out _ HT2.out).mono ?_
      rintro e w3 ⟨rfl, hb3⟩
      have HB3 := Lib.hid (HB2.out.trans (hb3.mono HB2.out.size))
      have HT3 := Lib.hid (HT2.out.on hb3)
      have HF3 := Lib.hid (HF2.out.on hb3)
      clear hb3 HP2 HB2 HT2 HF2
      go_wp2_with fail
      refine (HP3.out _ HT3.out).mono ?_
      rintro e w4 ⟨rfl, hb4⟩
      have HB4 := Lib.hid (HB3.out.trans (hb4.mono HB3.out.size))
      have HT4 := Lib.hid (HT3.out.on hb4)
      have HF4 := Lib.hid (HF3.out.on hb4)
      clear hb4 HP3 HB3 HT3 HF3
      go_wp2_with fail
      refine (HAW.out _ HT4.out HF4.out).mono ?_
      rintro e w5 ⟨rfl, hb5⟩
      have HB5 := Lib.hid (HB4.out.trans (hb5.mono HB4.out.size))
      clear hb5
      go_wp2
      go_ret
      exact ⟨rfl, HB5.out⟩
    simp only [Prod.mk.injEq] at hz
    obtain ⟨rfl, rfl⟩ := hz
    have hz := HEQ.out
    have HB1 := Lib.hid hb1
    have hchk : ∀ e ∈ l, chkE n e = 0 := by
      have h := congrArg (·.1) hz
      unfold errN at h
      rw [if_neg (by omega), if_neg (by omega)] at h
      exact chkL_good h
    obtain ⟨s1, s2, -⟩ := cnt_small (by omega) hchk (by omega) hm
    have HT1 := Lib.hid (HT.out.1.on hb1)
    have HF1 := Lib.hid (HT.out.2.on hb1)
    have HN1 := Lib.hid hnt
    have HL1 := Lib.hid (HL.out.over hb1 (Nat.le_refl _))
    have HM := Lib.hid hm
    have HZ := Lib.hid hnN
    have hin : InL M := fun x hx => (hG.1.2 x hx).2
    have HP1 := Lib.hid (fun w hn hT => progPrint_any (some ⟨g, 0, none⟩) N M hN hG (by omega) (by omega) w hn hT)
    have HP2 := Lib.hid (fun w hn hT => progDot_any (some ⟨g, 0, none⟩) N M hN hG (by omega) w hn hT)
    have HP3 := Lib.hid (fun w hn hT => progRows_any (some ⟨g, 0, none⟩) N M hN hG (by omega) w hn hT)
    have HR1' := Lib.hid (fun q c w hR => refPr_any (N : Int) q c M (by omega) hin (by omega) (fun e he => hG.non e he) (by omega) (by omega) w hR)
    have HR2' := Lib.hid (fun q c w hR => refDot_any N hN q c M (by omega) hG w hR)
    have HR3' := Lib.hid (fun q c w hR => refRows_any N hN q c M (by omega) hG w hR)
    rw [show prP (some ⟨g, 0, none⟩) N M = textP N (splitL M) from rfl] at HP1
    rw [show dtP (some ⟨g, 0, none⟩) N M = dotP N M from rfl] at HP2
    rw [show rwP (some ⟨g, 0, none⟩) N M = rowsP N M N from rfl] at HP3
    generalize (⟨(textP (N : Int) (splitL M)).toArray⟩ : ByteArray) = B1 at *
    generalize (⟨(dotP N M).toArray⟩ : ByteArray) = B2 at *
    generalize (⟨(rowsP N M N).toArray⟩ : ByteArray) = B3 at *
    clear hb1 hnt hm hchk hin HT HL HI hnN
    go_wp2_with fail
    refine (HRe.out _ HL1.out).mono ?_
    rintro e w2 ⟨hb2, x, q, c, M2, rfl, hr2, ⟨hno, -⟩ | ⟨-, hx, hm2⟩⟩
    · exact absurd rfl hno
    obtain rfl : M = M2 := Option.some.inj (HM.out.symm.trans hm2)
    obtain rfl : x = (N : Int) := hx.trans HZ.out
    have HR1 := Lib.hid (fun w hR => HR1'.out q c w hR)
    have HR2 := Lib.hid (fun w hR => HR2'.out q c w hR)
    have HR3 := Lib.hid (fun w hR => HR3'.out q c w hR)
    have HB2 := Lib.hid (HB1.out.trans (hb2.mono HB1.out.size))
    have hbA : Below w2.heap.size w2 (w2.alloc (.cells #[.int .i64 (N : Int), .slice q M.length c] 30)) := (Below.refl _ _).alloc (Nat.le_refl _) _
    have hbB := hb2.trans (hbA.mono hb2.size)
    have HE0 : Hid (TellSt W w2.heap.size q c N M g (w2.alloc (.cells #[.int .i64 (N : Int), .slice q M.length c] 30))) :=
      Lib.hid ⟨HB2.out.trans (hbA.mono HB2.out.size), TwoAt.new _ _ _ _, HN1.out.over hbB, hr2.over hbA (Nat.le_refl _), HT1.out.on hbB, HF1.out.on hbB⟩
    clear hb2 hbA hbB hr2 hm2 hx hz HZ HRe HNew HR1' HR2' HR3' HB2 HB1 HN1 HT1 HF1 HL1 HM
    go_upto_region 7 with fail
    generalize w2.alloc (.cells #[.int .i64 (N : Int), .slice q M.length c] 30) = V0 at *
    generalize w2.heap.size = X at *
    have HE1 : Hid (TellSt W X q c N M g V0.drew) := Lib.hid (HE0.out.keep ((Below.refl _ _).drew))
    clear HE0
    refine wp_region_held_drew (S := fun W' => W'.cell? ⟨X, 0, none⟩ = some (.int .i64 (N : Int)) ∧ W'.cell? ⟨X, 1, none⟩ = some (.slice q M.length c)) (by kernel_rfl) (two_all HE1.out.2.1) (fun hHeld => ?_)
    refine wpAnyH_take (i := 0) (v := ?vr0) rfl (by kernel_rfl) (by kernel_rfl) (by kernel_rfl) (fun _ _ _ h => h) (Or.inl ⟨by kernel_rfl, fun w' hSw => ?hyr0⟩) (by assumption) ?restr0
    case hyr0 => ((try dsimp only at hSw); go_simp; (try with_reducible rfl))
    simp only [Act.put]
    refine wpAnyH_take (i := 2) (v := ?vr2) rfl (by kernel_rfl) (by kernel_rfl) (by kernel_rfl) (fun _ _ _ h => h) (Or.inl ⟨by kernel_rfl, fun w' hSw => ?hyr2⟩) (by assumption) ?restr2
    case hyr2 => ((try dsimp only at hSw); go_simp; (try with_reducible rfl))
    simp only [Act.put]
    refine wpAnyH_ready (rs := [1]) (by kernel_rfl) (by simp) ?_
    refine AllReadyH.cons rfl (fun K hK => ?_) AllReadyH.nil
    go_simp
    refine (HP1.out _ HE1.out.2.2.1 HE1.out.2.2.2.2.1).mono ?_
    rintro e y1 ⟨rfl, hb1⟩
    have HE2 := Lib.hid (HE1.out.keep hb1)
    clear hb1 HE1
    go_wp2_with fail
    refine hK.out _ _ ?hSr1 (fun hHeld => ?restr1)
    case hSr1 => exact two_all HE2.out.2.1
    clear hK K
    refine wpAnyH_ready (rs := [3]) (by kernel_rfl) (by simp) ?_
    refine AllReadyH.cons rfl (fun K hK => ?_) AllReadyH.nil
    go_simp
    refine (HR1.out _ HE2.out.2.2.2.1).mono ?_
    rintro e y2 ⟨rfl, hb2⟩
    have HE3 := Lib.hid (HE2.out.keep hb2)
    clear hb2 HE2
    go_wp2_with fail
    refine hK.out _ _ ?hSr3 (fun hHeld => ?restr3)
    case hSr3 => exact two_all HE3.out.2.1
    clear hK K
    refine wpAnyH_take (i := 4) (v := ?vr4) rfl (by kernel_rfl) (by kernel_rfl) (by kernel_rfl) (fun _ _ _ h => h) (Or.inl ⟨by kernel_rfl, fun w' hSw => ?hyr4⟩) (by assumption) ?restr4
    case hyr4 => ((try dsimp only at hSw); go_simp; (try with_reducible rfl))
    simp only [Act.put]
    refine wpAnyH_take (i := 5) (v := ?vr5) rfl (by kernel_rfl) (by kernel_rfl) (by kernel_rfl) (fun _ _ _ h => h) (Or.inl ⟨by kernel_rfl, fun w' hSw => ?hyr5⟩) (by assumption) ?restr5
    case hyr5 => ((try dsimp only at hSw); go_simp; (try with_reducible rfl))
    simp only [Act.put]
    refine wpAnyH_take (i := 6) (v := ?vr6) rfl (by kernel_rfl) (by kernel_rfl) (by kernel_rfl) (fun _ _ _ h => h) (Or.inl ⟨by kernel_rfl, fun w' hSw => ?hyr6⟩) (by assumption) ?restr6
    case hyr6 => ((try dsimp only at hSw); go_simp; (try with_reducible rfl))
    simp only [Act.put]
    refine wpAnyH_take (i := 8) (v := ?vr8) rfl (by kernel_rfl) (by kernel_rfl) (by kernel_rfl) (fun _ _ _ h => h) (Or.inl ⟨by kernel_rfl, fun w' hSw => ?hyr8⟩) (by assumption) ?restr8
    case hyr8 => ((try dsimp only at hSw); go_simp; (try with_reducible rfl))
    simp only [Act.put]
    refine wpAnyH_ready (rs := [7]) (by kernel_rfl) (by simp) ?_
    refine AllReadyH.cons rfl (fun K hK => ?_) AllReadyH.nil
    go_simp
    refine (HP2.out _ HE3.out.2.2.1 HE3.out.2.2.2.2.1).mono ?_
    rintro e y3 ⟨rfl, hb3⟩
    have HE4 := Lib.hid (HE3.out.keep hb3)
    clear hb3 HE3
    go_wp2_with fail
    refine hK.out _ _ ?hSr7 (fun hHeld => ?restr7)
    case hSr7 => exact two_all HE4.out.2.1
    clear hK K
    refine wpAnyH_ready (rs := [9]) (by kernel_rfl) (by simp) ?_
    refine AllReadyH.cons rfl (fun K hK => ?_) AllReadyH.nil
    go_simp
    refine (HR2.out _ HE4.out.2.2.2.1).mono ?_
    rintro e y4 ⟨rfl, hb4⟩
    have HE5 := Lib.hid (HE4.out.keep hb4)
    clear hb4 HE4
    go_wp2_with fail
    refine hK.out _ _ ?hSr9 (fun hHeld => ?restr9)
    case hSr9 => exact two_all HE5.out.2.1
    clear hK K
    refine wpAnyH_take (i := 10) (v := ?vr10) rfl (by kernel_rfl) (by kernel_rfl) (by kernel_rfl) (fun _ _ _ h => h) (Or.inl ⟨by kernel_rfl, fun w' hSw => ?hyr10⟩) (by assumption) ?restr10
    case hyr10 => ((try dsimp only at hSw); go_simp; (try with_reducible rfl))
    simp only [Act.put]
    refine wpAnyH_take (i := 11) (v := ?vr11) rfl (by kernel_rfl) (by kernel_rfl) (by kernel_rfl) (fun _ _ _ h => h) (Or.inl ⟨by kernel_rfl, fun w' hSw => ?hyr11⟩) (by assumption) ?restr11
    case hyr11 => ((try dsimp only at hSw); go_simp; (try with_reducible rfl))
    simp only [Act.put]
    refine wpAnyH_take (i := 12) (v := ?vr12) rfl (by kernel_rfl) (by kernel_rfl) (by kernel_rfl) (fun _ _ _ h => h) (Or.inl ⟨by kernel_rfl, fun w' hSw => ?hyr12⟩) (by assumption) ?restr12
    case hyr12 => ((try dsimp only at hSw); go_simp; (try with_reducible rfl))
    simp only [Act.put]
    refine wpAnyH_take (i := 13) (v := ?vr13) rfl (by kernel_rfl) (by kernel_rfl) (by kernel_rfl) (fun _ _ _ h => h) (Or.inl ⟨by kernel_rfl, fun w' hSw => ?hyr13⟩) (by assumption) ?restr13
    case hyr13 => ((try dsimp only at hSw); go_simp; (try with_reducible rfl))
    simp only [Act.put]
    refine wpAnyH_take (i := 15) (v := ?vr15) rfl (by kernel_rfl) (by kernel_rfl) (by kernel_rfl) (fun _ _ _ h => h) (Or.inl ⟨by kernel_rfl, fun w' hSw => ?hyr15⟩) (by assumption) ?restr15
    case hyr15 => ((try dsimp only at hSw); go_simp; (try with_reducible rfl))
    simp only [Act.put]
    refine wpAnyH_ready (rs := [14]) (by kernel_rfl) (by simp) ?_
    refine AllReadyH.cons rfl (fun K hK => ?_) AllReadyH.nil
    go_simp
    refine (HP3.out _ HE5.out.2.2.1 HE5.out.2.2.2.2.1).mono ?_
    rintro e y5 ⟨rfl, hb5⟩
    have HE6 := Lib.hid (HE5.out.keep hb5)
    clear hb5 HE5
    go_wp2_with fail
    refine hK.out _ _ ?hSr14 (fun hHeld => ?restr14)
    case hSr14 => exact two_all HE6.out.2.1
    clear hK K
    refine wpAnyH_ready (rs := [16]) (by kernel_rfl) (by simp) ?_
    refine AllReadyH.cons rfl (fun K hK => ?_) AllReadyH.nil
    go_simp
    refine (HR3.out _ HE6.out.2.2.2.1).mono ?_
    rintro e y6 ⟨rfl, hb6⟩
    have HE7 := Lib.hid (HE6.out.keep hb6)
    clear hb6 HE6
    go_wp2_with fail
    refine hK.out _ _ ?hSr16 (fun hHeld => ?restr16)
    case hSr16 => exact two_all HE7.out.2.1
    clear hK K
    refine wpAnyH_take (i := 17) (v := ?vr17) rfl (by kernel_rfl) (by kernel_rfl) (by kernel_rfl) (fun _ _ _ h => h) (Or.inl ⟨by kernel_rfl, fun w' hSw => ?hyr17⟩) (by assumption) ?restr17
    case hyr17 => ((try dsimp only at hSw); go_simp; (try with_reducible rfl))
    simp only [Act.put]
    refine wpAnyH_take (i := 18) (v := ?vr18) rfl (by kernel_rfl) (by kernel_rfl) (by kernel_rfl) (fun _ _ _ h => h) (Or.inl ⟨by kernel_rfl, fun w' hSw => ?hyr18⟩) (by assumption) ?restr18
    case hyr18 => ((try dsimp only at hSw); go_simp; (try with_reducible rfl))
    simp only [Act.put]
    refine wpAnyH_take (i := 19) (v := ?vr19) rfl (by kernel_rfl) (by kernel_rfl) (by kernel_rfl) (fun _ _ _ h => h) (Or.inl ⟨by kernel_rfl, fun w' hSw => ?hyr19⟩) (by assumption) ?restr19
    case hyr19 => ((try dsimp only at hSw); go_simp; (try with_reducible rfl))
    simp only [Act.put]
    refine wpAnyH_ready (rs := [20]) (by kernel_rfl) (by simp) ?_
    refine AllReadyH.cons rfl (fun K hK => ?_) AllReadyH.nil
    go_simp
    refine (HAW.out _ HE7.out.2.2.2.2.1 HE7.out.2.2.2.2.2).mono ?_
    rintro e y7 ⟨rfl, hb7⟩
    have HE8 := Lib.hid (HE7.out.keep hb7)
    clear hb7 HE7
    go_wp2_with fail
    refine hK.out _ _ ?hSr20 (fun hHeld => ?restr20)
    case hSr20 => exact two_all HE8.out.2.1
    clear hK K
    refine wpAnyH_take (i := 21) (v := ?vr21) rfl (by kernel_rfl) (by kernel_rfl) (by kernel_rfl) (fun _ _ _ h => h) (Or.inl ⟨by kernel_rfl, fun w' hSw => ?hyr21⟩) (by assumption) ?restr21
    case hyr21 => ((try dsimp only at hSw); go_simp; (try with_reducible rfl))
    simp only [Act.put]
    refine wpAnyH_ready (rs := [22]) (by kernel_rfl) (by simp) ?_
    refine AllReadyH.cons rfl (fun K hK => ?_) AllReadyH.nil
    go_simp
    refine hK.out _ _ (by assumption) (fun hHeld => ?_)
    clear hK K
    refine wpAnyH_done (by kernel_rfl) ?_ _
    go_wp2
    go_ret
    exact ⟨rfl, HE8.out.1⟩
  · have i1 : (l.length : Int) > 100 := by omega
    go_enter Tryz.func3, Tryz.ntmps3
    go_wp2_with fail
    refine (HAW.out _ HT.out.1 HT.out.2).mono ?_
    rintro e w1 ⟨rfl, hb1⟩
    have HB := Lib.hid hb1
    clear hb1
    go_wp2
    go_ret
    exact ⟨rfl, HB.out⟩
theorem own : ownKnob Tryz.prog.godebug = none := by kernel_rfl
theorem laidOut : laidOutB Tryz.prog = true := by kernel_rfl
set_option maxRecDepth 100000 in
theorem lifted (os : Os) (started : os.Started) (H : Type) (enc : TypeId × Value → H) :
    ReturnsInHanded {} Tryz.checked os 3 .any (fun w args => (Rows.gprintTellsSpec.pre enc Tryz.prog Tryz.f3 [] false w args ∧ laidMetH Tryz.prog Rows.gprintTellsRow.laid w) ∧ sizedMet enc Tryz.prog Tryz.f3 (OpenSpec.ofChange Rows.gprintTellsSpec) false w args)
      (Rows.gprintTellsSpec.post enc Tryz.prog Tryz.f3 false true false false) := by
  refine returnsInHanded_of_change_and (C := Tryz.checked) (X := fun w _ => laidMetH Tryz.prog Rows.gprintTellsRow.laid w) (fun _ _ _ hh h => h.of_heap hh) own started (by kernel_rfl) Tryz.func3
    (ChangeSpec.witness_at (enc := enc) (C := Tryz.checked) (os := os) (X := fun w _ => laidMetH Tryz.prog Rows.gprintTellsRow.laid w) false (laidWorld Tryz.prog os) #[.int .u8 0, .slice none 0 0] 8 rfl (by kernel_rfl) (by kernel_rfl) (by kernel_rfl) (by kernel_rfl) (by kernel_rfl) (laid_met os _)) ?_
  intro W base args ds gs before hval0 hW _ _ hL _
  have hval : ∀ (j : Nat) t v, Tryz.f3.params[j]? = some t → args[j]? = some v → Value.okWide Tryz.prog W .any base t v := hval0
  have hW' := hW
  obtain ⟨p, q, hA0, hV, rfl, hfz, hnd⟩ := hW
  have hA : DataW.TrodAll enc Tryz.prog W 0 (fun _ => true) true Tryz.f3.params.toList args.toList ds p := hA0
  rw [Tryz.params3] at hA hval
  obtain ⟨v0, vs0, d0, ds0, p0, q0, hargs, rfl, rfl, h0, r0⟩ := trodAll_cons hA
  obtain ⟨v1, vs1, d1, ds1, p1, q1, rfl, rfl, rfl, h1, r1⟩ := trodAll_cons r0
  obtain ⟨rfl, rfl, rfl⟩ := trodAll_nil r1
  obtain rfl : args = #[v0, v1] := by cases args; simp_all
  obtain ⟨rfl, rfl⟩ := trodVars_none hV
  obtain ⟨a0, rfl, rfl, rfl, w0⟩ := open_int Tryz.underlying5 (hval 0 5 v0 rfl rfl) h0
  obtain ⟨a1, len1, cap1, rfl⟩ := okWide_slice Tryz.underlying22 (hval 1 22 v1 rfl rfl)
  have k1 := h1
  have lt1 : ∀ x ∈ p1, x.block < W.heap.size := by obtain ⟨m, hm⟩ := k1; exact DataW.trod_lt m _ _ _ hm
  obtain ⟨l1, hlen1, w1⟩ : ∃ l : List Ed, l.length = len1 ∧ EdIn W a1 l ∧ l.length ≤ maxLen := by
    obtain ⟨fuel, hf⟩ := h1
    exact open_edges hf
  subst hlen1
  clear hA0 hval0
  refine (walk W a0 w0 a1 cap1 l1 w1.1 w1.2 (both_of_laid hL)).mono fun e W' ⟨he, bel⟩ => ?_
  subst he
  exact ⟨_, rfl, _, _, _, [], _, [], hW', trodAll_mk1 (shut_bool Tryz.underlying4 _), (trodAll_cons_mk (shut_int Tryz.underlying5 w0) (trodAll_cons_mk (Below.trod laidOut (by kernel_rfl) (of_decide_eq_true (by kernel_rfl)) k1 bel lt1) trodAll_mk0)), rfl, bel.frame _, fun h => by cases h⟩
theorem over : Rows.gprintTellsRow.holds Tryz.pinned (OpenSpec.ofChange Rows.gprintTellsSpec) :=
  OpenClaim.holds_of_wide 3 Tryz.f3 rfl rfl rfl rfl rfl rfl rfl ⟨rfl, rfl, rfl, rfl, rfl⟩ rfl rfl rfl rfl rfl (by kernel_rfl) Tryz.func3 (by kernel_rfl)
    (of_decide_eq_true (by kernel_rfl)) (by unfold Func.isWrapper; first | (rw [if_pos (by decide +kernel)]; kernel_rfl) | (rw [if_neg (by decide +kernel)]; exact ⟨rfl, rfl⟩))
    (fun os started H enc _ => lifted os started H enc)
/-- The statement: the tied card. -/
theorem proved : Rows.GprintTellsCardSaid :=
  Claim7.holds_tied_plain_at .later [] [.data, .data, .data] true Rows.gprintTellsCard.stood.harness Rows.gprintTellsCard.stood.looks
    over (fun _ h => by cases h) (by kernel_rfl) (fun _ h => by cases h) gprintTells_row_tie rfl ⟨rfl, rfl⟩ (by kernel_rfl) rfl
    (fun f fn hf hfn => by
      obtain rfl : f = 3 := Option.some.inj ((show Tryz.prog.funcNamed Rows.gprintTellsRow.func = some 3 by kernel_rfl).symm.trans hf) |>.symm
      obtain rfl : fn = Tryz.f3 := (Option.some.inj (Tryz.func3.symm.trans hfn)).symm
      exact ⟨by kernel_rfl, fun j t ht => by
        rw [Tryz.params3] at ht
        have hall : ∀ t ∈ #[5, 22], Tryz.prog.wantsStandIn t = false := by decide +kernel
        exact hall t (Array.mem_of_getElem? ht)⟩)
    (by kernel_rfl)
#print axioms proved
end Go.Proofs.YtdbebebhldldmaaGreatDoor.gprintTells
