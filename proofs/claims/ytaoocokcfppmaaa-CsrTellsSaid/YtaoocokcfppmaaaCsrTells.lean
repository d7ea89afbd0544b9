/- What is told of any arc, and of any vertex, of any graph is what the document says; of none there is nothing. Conditions: none: every number of vertices up to 255, every slice of edges (of more than 60 the law asks only that the program tells arcs at all), every two numbers. -/
import Derived.Test.YtaoocokcfppmaaaCsAwake
import Derived.Test.YtaoocokcfppmaaaNtLaw
import Derived.Test.YtaoocokcfppmaaaEdOpen
import Derived.Test.YtaoocokcfppmaaaPairV
import Derived.Test.YtaoocokcfppmaaaChecked
import Derived.Test.YtaoocokcfppmaaaRows
import Derived.ChangeSlices
import Derived.ProofKit
import Derived.OpenShut
import Derived.ChangeOld
import Derived.Below
import Derived.Carry
namespace Go.Proofs.Ytaoocokcfppmaaa.csrTells
open Go.ChangeShapes Go.WideShapes Go.ChangeAt Go.RowKit EdPure NtPure CsPure Cs
@[go_sem] theorem made_g (x y z u : Value) (w : World) : (Instr.field 39 (.agg #[x, y, z, u]) 0).run Try.prog w = .ok (.agg #[x, y]) w := by kernel_rfl
theorem tail_nil (i : Int) : tailZ [] i = -1 := by unfold tailZ endV; split <;> simp
theorem head_nil (i : Int) : headZ [] i = -1 := tail_nil _
theorem cap_nil (i : Int) : capZ [] i = 0 := by unfold capZ wtV; split <;> simp
/-- What stands: the two numbers, the document's graph, the program's arcs. -/
def TellSt (w : World) (X : Nat) (q : Option Addr) (c N : Nat) (M : List Ed) (g : Nat) (W : World) : Prop :=
  Below w.heap.size w W ∧ TwoAt X W (.int .i64 (N : Int)) (.slice q M.length c) ∧ ArcsAt (some ⟨g, 0, none⟩) N M W ∧ ReadsE W.heap.size W q M ∧ True
theorem TellSt.keep {w W W' : World} {X : Nat} {q : Option Addr} {c N : Nat} {M : List Ed} {g : Nat} (h : TellSt w X q c N M g W) (hb : Below W.heap.size W W') : TellSt w X q c N M g W' :=
  ⟨h.1.trans (hb.mono h.1.size), h.2.1.on hb h.2.1.lt, h.2.2.1.over hb, h.2.2.2.1.over hb (Nat.le_refl _), trivial⟩
set_option maxRecDepth 100000 in
set_option maxHeartbeats 2000000 in
theorem walk_list (n : Int) (hn : (Lit.int .u8 n).wf = true) (a : Option Addr) (cap : Nat) (l : List Ed) (x : Int × Int) (W : World) (h1 : EdIn W a l) (_h2 : l.length ≤ maxLen) (hx : (-9223372036854775808 ≤ x.1 ∧ x.1 ≤ 9223372036854775807) ∧ -9223372036854775808 ≤ x.2 ∧ x.2 ≤ 9223372036854775807) :
    Calls Try.prog 3 #[.int .u8 n, .slice a l.length cap, .agg #[.int .i64 x.1, .int .i64 x.2]] W fun r w' => r = .returned (.bool true) ∧ Below W.heap.size W w' := by
  obtain ⟨u, v⟩ := x
  simp only at hx ⊢
  obtain ⟨⟨u0, u1⟩, v0, v1⟩ := hx
  obtain ⟨n0, n1⟩ : 0 ≤ n ∧ n ≤ 255 := bounds_u8 hn
  have hbX : Below W.heap.size W (W.alloc (.cells #[.int .i64 u, .int .i64 v] 23)) := (Below.refl _ _).alloc (Nat.le_refl _) _
  have HBX := Lib.hid hbX
  have HTX := Lib.hid (TwoAt.new W (.int .i64 u) (.int .i64 v) 23)
  clear hn
  by_cases hlen : l.length ≤ 60
  · have i1 : ¬ (l.length : Int) > 60 := by omega
    have HL := Lib.hid (h1.2.over hbX (Nat.le_refl _))
    have HNew := Lib.hid (newU_any n a cap l h1.1 _ HL.out)
    have HRe := Lib.hid (fun w hR => refU_any n a cap l (by omega) h1.1 w hR)
    obtain ⟨e1, e2, he⟩ : ∃ e1 e2, errN n l = (e1, e2) := ⟨_, _, rfl⟩
    have HEQ := Lib.hid he
    unfold NewU Kind at HNew
    unfold RefU at HRe
    rw [he] at HNew HRe
    simp only at HNew HRe
    clear h1 he hbX
    go_enter Try.func3, Try.ntmps3
    go_upto_region 1 with fail
    generalize W.alloc (.cells #[.int .i64 u, .int .i64 v] 23) = W0 at *
    go_wp2_with fail
    refine HNew.out.mono ?_
    rintro e w1 ⟨hb1, p, N, M, rfl, hnt, ⟨hN, hM, hG⟩, ⟨hz, rfl, rfl, rfl⟩ | ⟨hz, ⟨g0, rfl⟩, hnN, hm⟩⟩
    · have t1 : (e1 != 0) = true := by simpa using hz
      have HB1 := Lib.hid (HBX.out.trans (hb1.mono HBX.out.size))
      have HT1 := Lib.hid (HTX.out.on hb1 HTX.out.lt)
      clear hnt hN hM hG HRe HNew hb1 hz HBX HTX
      go_wp2_with fail
      refine (newArcs_any none 0 [] (by omega) (GoodN.nil _) (by simp) _ (NetAt.nil _)).mono ?_
      rintro e w2 ⟨hb2, r, rfl, hr, -⟩
      have HB2 := Lib.hid (HB1.out.trans (hb2.mono HB1.out.size))
      have HT2 := Lib.hid (HT1.out.on hb2 HT1.out.lt)
      have HR2 := Lib.hid hr
      clear hb2 hr HB1 HT1
      go_wp2_with fail
      refine (arcsN_any r 0 [] _ HR2.out).mono ?_
      rintro e w3 ⟨rfl, hb3⟩
      have HB3 := Lib.hid (HB2.out.trans (hb3.mono HB2.out.size))
      have HT3 := Lib.hid (HT2.out.on hb3 HT2.out.lt)
      have HR3 := Lib.hid (HR2.out.over hb3)
      clear hb3 HB2 HT2 HR2
      go_wp2_with fail
      refine (arcsLen_any r 0 [] (by simp) _ HR3.out).mono ?_
      rintro e w4 ⟨rfl, hb4⟩
      have HB4 := Lib.hid (HB3.out.trans (hb4.mono HB3.out.size))
      have HT4 := Lib.hid (HT3.out.on hb4 HT3.out.lt)
      have HR4 := Lib.hid (HR3.out.over hb4)
      clear hb4 HB3 HT3 HR3
      obtain ⟨c0, c1, -, -⟩ := HT4.out
      go_wp2_with fail
      refine (arcsOut_any r 0 [] (by omega) (GoodN.nil _) (by simp) v v0 v1 _ HR4.out).mono ?_
      rintro e w5 ⟨hb5, q5, c5, rfl, -⟩
      have HB5 := Lib.hid (HB4.out.trans (hb5.mono HB4.out.size))
      have HT5 := Lib.hid (HT4.out.on hb5 HT4.out.lt)
      have HR5 := Lib.hid (HR4.out.over hb5)
      clear hb5 HB4 HT4 HR4 c0 c1
      obtain ⟨c0, c1, -, -⟩ := HT5.out
      have z5 : (zN (outN [] v 0)).length = 0 := rfl
      go_wp2_with fail
      refine (arcsTail_any r 0 [] (by simp) u u0 u1 _ HR5.out).mono ?_
      rw [tail_nil]
      rintro e w6 ⟨rfl, hb6⟩
      have HB6 := Lib.hid (HB5.out.trans (hb6.mono HB5.out.size))
      have HT6 := Lib.hid (HT5.out.on hb6 HT5.out.lt)
      have HR6 := Lib.hid (HR5.out.over hb6)
      clear hb6 HB5 HT5 HR5 c0 c1
      obtain ⟨c0, c1, -, -⟩ := HT6.out
      go_wp2_with fail
      refine (arcsHead_any r 0 [] (by simp) u u0 u1 _ HR6.out).mono ?_
      rw [head_nil]
      rintro e w7 ⟨rfl, hb7⟩
      have HB7 := Lib.hid (HB6.out.trans (hb7.mono HB6.out.size))
      have HT7 := Lib.hid (HT6.out.on hb7 HT6.out.lt)
      have HR7 := Lib.hid (HR6.out.over hb7)
      clear hb7 HB6 HT6 HR6 c0 c1
      obtain ⟨c0, c1, -, -⟩ := HT7.out
      go_wp2_with fail
      refine (arcsCap_any r 0 [] (by simp) u u0 u1 _ HR7.out).mono ?_
      rw [cap_nil]
      rintro e w8 ⟨rfl, hb8⟩
      have HB8 := Lib.hid (HB7.out.trans (hb8.mono HB7.out.size))
      clear hb8 HB7 HT7 HR7 c0 c1
      go_wp2_with fail
      refine (awake_any _).mono ?_
      rintro e w9 ⟨rfl, hb9⟩
      have HB9 := Lib.hid (HB8.out.trans (hb9.mono HB8.out.size))
      clear hb9
      go_wp2
      go_ret
      exact ⟨rfl, HB9.out⟩
    simp only [Prod.mk.injEq] at hz
    obtain ⟨rfl, rfl⟩ := hz
    subst hnN
    have hM2 : M.length ≤ 60 := by
      have hc : ∀ e ∈ l, chkE (N : Int) e = 0 := by
        have h := congrArg (·.1) HEQ.out
        unfold errN at h
        rw [if_neg (by omega), if_neg (by omega)] at h
        exact chkL_good h
      obtain ⟨M', m1, m2, m3⟩ := merged (fun e he => by
        have h := hc e he
        unfold chkE at h
        split at h
        · next h1 => split at h
                     · next h2 => exact ⟨by unfold In; omega, by unfold In; omega, by unfold In; omega⟩
                     · omega
        · omega) hc (by omega)
      obtain rfl := Option.some.inj (m1.symm.trans hm)
      omega
    have HM : Hid (M.length ≤ 10000) := Lib.hid (by omega)
    have HB1 := Lib.hid (HBX.out.trans (hb1.mono HBX.out.size))
    have HT1 := Lib.hid (HTX.out.on hb1 HTX.out.lt)
    have HN1 := Lib.hid hnt
    have HL1 := Lib.hid (HL.out.over hb1 (Nat.le_refl _))
    have HMM := Lib.hid hm
    have HP1 := Lib.hid (fun g w h => arcsTail_any (some ⟨g, 0, none⟩) N M HM.out u u0 u1 w h)
    have HP2 := Lib.hid (fun g w h => arcsHead_any (some ⟨g, 0, none⟩) N M HM.out u u0 u1 w h)
    have HP3 := Lib.hid (fun g w h => arcsCap_any (some ⟨g, 0, none⟩) N M HM.out u u0 u1 w h)
    have HP4 := Lib.hid (fun g w h => arcsOut_any (some ⟨g, 0, none⟩) N M hN hG HM.out v v0 v1 w h)
    have HP5 := Lib.hid (fun w => back_any u u0 u1 w)
    have HP6 := Lib.hid (fun w => edgeNo_any u u0 u1 w)
    have HR1 := Lib.hid (fun q c w h => refTail_any (N : Int) q c M (by omega) u u1 w h)
    have HR2 := Lib.hid (fun q c w h => refHead_any (N : Int) q c M (by omega) u u0 u1 w h)
    have HR3 := Lib.hid (fun q c w h => refCap_any (N : Int) q c M hG (by omega) u u1 w h)
    have HR4 := Lib.hid (fun q c w h => refOut_any N hN q c M hG (by omega) v w h)
    have HR5 := Lib.hid (fun w => refBack_any u u0 u1 w)
    have HR6 := Lib.hid (fun w => refEdgeNo_any u u1 w)
    unfold ArcsOut at HP4 HR4
    have HLL : Hid ((zN (outN M v N)).length ≤ 5000) := Lib.hid (by rw [zN_len]; have := out_len hG.1 v N; omega)
    generalize zN (outN M v N) = L at *
    generalize tailZ M u = z1 at *
    generalize headZ M u = z2 at *
    generalize capZ M u = z3 at *
    generalize backZ u = z5 at *
    generalize edgeZ u = z6 at *
    have HGG := Lib.hid hG
    clear hb1 hnt hm HNew HBX HTX HL HEQ hG
    go_wp2_with fail
    refine (newArcs_any (some ⟨g0, 0, none⟩) N M hN HGG.out HM.out _ HN1.out).mono ?_
    rintro e w2 ⟨hb2, r, rfl, hr, hne⟩
    obtain ⟨g, rfl⟩ := hne (by simp)
    have HB2 := Lib.hid (HB1.out.trans (hb2.mono HB1.out.size))
    have HT2 := Lib.hid (HT1.out.on hb2 HT1.out.lt)
    have HA2 := Lib.hid hr
    have HL2 := Lib.hid (HL1.out.over hb2 (Nat.le_refl _))
    clear hb2 hr hne HB1 HT1 HN1 HL1
    go_wp2_with fail
    refine (HRe.out _ HL2.out).mono ?_
    rintro e w3 ⟨hb3, x, q, c, M2, rfl, hr3, ⟨hno, -⟩ | ⟨-, hx, hm2⟩⟩
    · exact absurd rfl hno
    obtain rfl : M = M2 := Option.some.inj (HMM.out.symm.trans hm2)
    subst hx
    have HB3 := Lib.hid (HB2.out.trans (hb3.mono HB2.out.size))
    have hbA : Below w3.heap.size w3 (w3.alloc (.cells #[.int .i64 (N : Int), .slice q M.length c] 37)) := (Below.refl _ _).alloc (Nat.le_refl _) _
    have hbB := hb3.trans (hbA.mono hb3.size)
    have HE0 : Hid (TellSt W w3.heap.size q c N M g (w3.alloc (.cells #[.int .i64 (N : Int), .slice q M.length c] 37))) :=
      Lib.hid ⟨HB3.out.trans (hbA.mono HB3.out.size), TwoAt.new _ _ _ _, HA2.out.over hbB, hr3.over hbA (Nat.le_refl _), trivial⟩
    have HT3 := Lib.hid (HT2.out.on hbB HT2.out.lt)
    have HP1 := Lib.hid (HP1.out g)
    have HP2 := Lib.hid (HP2.out g)
    have HP3 := Lib.hid (HP3.out g)
    have HP4 := Lib.hid (HP4.out g)
    have HR1 := Lib.hid (HR1.out q c)
    have HR2 := Lib.hid (HR2.out q c)
    have HR3 := Lib.hid (HR3.out q c)
    have HR4 := Lib.hid (HR4.out q c)
    clear hb3 hbA hbB hr3 hm2 HB2 HT2 HA2 HL2 HRe HMM HB3
    go_upto_region 8 with fail
    generalize w3.alloc (.cells #[.int .i64 (N : Int), .slice q M.length c] 37) = V0 at *
    generalize w3.heap.size = X at *
    obtain ⟨c0, c1, -, -⟩ := HT3.out
    obtain ⟨d0, d1, -, -⟩ := HE0.out.2.1
    have b0 : ((N : Int) == (N : Int)) = true := beq_self_eq_true _
    go_wp2_with fail
    go_quiet (fail)
    go_wp2_with fail
    have HE00 := Lib.hid (HE0.out.keep (below_drewN (Below.refl _ _) nq))
    clear HE0 HT3 c0 c1 d0 d1
    generalize V0.drewN nq = V1 at *
    have hwN : IntKind.i64.wrap (N : Int) = (N : Int) := IntWalk.i64_in _ (by omega)
    have hwM : IntKind.i64.wrap (2 * (M.length : Int)) = 2 * (M.length : Int) := IntWalk.i64_in _ (by omega)
    have HE1 : Hid (TellSt W X q c N M g V1.drew) := Lib.hid (HE00.out.keep ((Below.refl _ _).drew))
    clear HE00
    refine wp_region_held_drew (S := fun W' => W'.cell? ⟨X, 0, none⟩ = some (.int .i64 (N : Int)) ∧ W'.cell? ⟨X, 1, none⟩ = some (.slice q M.length c)) (by kernel_rfl) (two_all HE1.out.2.1) (fun hHeld => ?_)
    refine dag_take (i := 0) (v := ?vr0) rfl rfl (by kernel_rfl) (by kernel_rfl) (by kernel_rfl) (fun _ _ _ h => h) (Or.inl ⟨by kernel_rfl, fun w' hSw => ?hyr0⟩) (by assumption) ?restr0
    case hyr0 => ((try dsimp only at hSw); go_simp; (try with_reducible rfl))
    simp only [Act.put]
    refine dag_take (i := 1) (v := ?vr1) rfl rfl (by kernel_rfl) (by kernel_rfl) (by kernel_rfl) (fun _ _ _ h => h) (Or.inl ⟨by kernel_rfl, fun w' hSw => ?hyr1⟩) (by assumption) ?restr1
    case hyr1 => ((try dsimp only at hSw); go_simp; (try with_reducible rfl))
    simp only [Act.put]
    refine dag_take (i := 2) (v := ?vr2) rfl rfl (by kernel_rfl) (by kernel_rfl) (by kernel_rfl) (fun _ _ _ h => h) (Or.inl ⟨by kernel_rfl, fun w' hSw => ?hyr2⟩) (by assumption) ?restr2
    case hyr2 => ((try dsimp only at hSw); go_simp; (try with_reducible rfl))
    simp only [Act.put]
    refine dag_take (i := 3) (v := ?vr3) rfl rfl (by kernel_rfl) (by kernel_rfl) (by kernel_rfl) (fun _ _ _ h => h) (Or.inl ⟨by kernel_rfl, fun w' hSw => ?hyr3⟩) (by assumption) ?restr3
    case hyr3 => ((try dsimp only at hSw); go_simp; (try with_reducible rfl))
    simp only [Act.put]
    refine dag_take (i := 5) (v := ?vr5) rfl rfl (by kernel_rfl) (by kernel_rfl) (by kernel_rfl) (fun _ _ _ h => h) (Or.inl ⟨by kernel_rfl, fun w' hSw => ?hyr5⟩) (by assumption) ?restr5
    case hyr5 => ((try dsimp only at hSw); go_simp; (try with_reducible rfl))
    simp only [Act.put]
    refine dag_take (i := 6) (v := ?vr6) rfl rfl (by kernel_rfl) (by kernel_rfl) (by kernel_rfl) (fun _ _ _ h => h) (Or.inl ⟨by kernel_rfl, fun w' hSw => ?hyr6⟩) (by assumption) ?restr6
    case hyr6 => ((try dsimp only at hSw); go_simp; (try with_reducible rfl))
    simp only [Act.put]
    refine wpAnyH_ready (rs := [4]) (by kernel_rfl) (by simp) ?_
    refine AllReadyH.cons rfl (fun K hK => ?_) AllReadyH.nil
    go_simp
    refine (arcsN_any (some ⟨g, 0, none⟩) N M _ HE1.out.2.2.1).mono ?_
    rintro e y1 ⟨rfl, hb1⟩
    have HE2 := Lib.hid (HE1.out.keep hb1)
    clear hb1 HE1
    go_wp2_with fail
    refine hK.out _ _ ?hSr4 (fun hHeld => ?restr4)
    case hSr4 => exact two_all HE2.out.2.1
    clear hK K
    refine dag_take (i := 7) (v := ?vr7) rfl rfl (by kernel_rfl) (by kernel_rfl) (by kernel_rfl) (fun _ _ _ h => h) (Or.inl ⟨by kernel_rfl, fun w' hSw => ?hyr7⟩) (by assumption) ?restr7
    case hyr7 => ((try dsimp only at hSw); go_simp; (try with_reducible rfl))
    simp only [Act.put]
    refine dag_take (i := 8) (v := ?vr8) rfl rfl (by kernel_rfl) (by kernel_rfl) (by kernel_rfl) (fun _ _ _ h => h) (Or.inl ⟨by kernel_rfl, fun w' hSw => ?hyr8⟩) (by assumption) ?restr8
    case hyr8 => ((try dsimp only at hSw); go_simp; (try with_reducible rfl))
    simp only [Act.put]
    refine dag_take (i := 9) (v := ?vr9) rfl rfl (by kernel_rfl) (by kernel_rfl) (by kernel_rfl) (fun _ _ _ h => h) (Or.inl ⟨by kernel_rfl, fun w' hSw => ?hyr9⟩) (by assumption) ?restr9
    case hyr9 => ((try dsimp only at hSw); go_simp; (try with_reducible rfl))
    simp only [Act.put]
    refine dag_take (i := 10) (v := ?vr10) rfl rfl (by kernel_rfl) (by kernel_rfl) (by kernel_rfl) (fun _ _ _ h => h) (Or.inl ⟨by kernel_rfl, fun w' hSw => ?hyr10⟩) (by assumption) ?restr10
    case hyr10 => ((try dsimp only at hSw); go_simp; (try with_reducible rfl))
    simp only [Act.put]
    refine dag_take (i := 12) (v := ?vr12) rfl rfl (by kernel_rfl) (by kernel_rfl) (by kernel_rfl) (fun _ _ _ h => h) (Or.inl ⟨by kernel_rfl, fun w' hSw => ?hyr12⟩) (by assumption) ?restr12
    case hyr12 => ((try dsimp only at hSw); go_simp; (try with_reducible rfl))
    simp only [Act.put]
    refine dag_take (i := 13) (v := ?vr13) rfl rfl (by kernel_rfl) (by kernel_rfl) (by kernel_rfl) (fun _ _ _ h => h) (Or.inl ⟨by kernel_rfl, fun w' hSw => ?hyr13⟩) (by assumption) ?restr13
    case hyr13 => ((try dsimp only at hSw); go_simp; (try with_reducible rfl))
    simp only [Act.put]
    refine dag_take (i := 14) (v := ?vr14) rfl rfl (by kernel_rfl) (by kernel_rfl) (by kernel_rfl) (fun _ _ _ h => h) (Or.inl ⟨by kernel_rfl, fun w' hSw => ?hyr14⟩) (by assumption) ?restr14
    case hyr14 => ((try dsimp only at hSw); go_simp; (try with_reducible rfl))
    simp only [Act.put]
    refine dag_take (i := 15) (v := ?vr15) rfl rfl (by kernel_rfl) (by kernel_rfl) (by kernel_rfl) (fun _ _ _ h => h) (Or.inl ⟨by kernel_rfl, fun w' hSw => ?hyr15⟩) (by assumption) ?restr15
    case hyr15 => ((try dsimp only at hSw); go_simp; (try with_reducible rfl))
    simp only [Act.put]
    refine wpAnyH_ready (rs := [11]) (by kernel_rfl) (by simp) ?_
    refine AllReadyH.cons rfl (fun K hK => ?_) AllReadyH.nil
    go_simp
    try simp only [hwN, eq_self, if_true]
    refine (arcsLen_any (some ⟨g, 0, none⟩) N M HM.out _ HE2.out.2.2.1).mono ?_
    rintro e y2 ⟨rfl, hb2⟩
    have HE3 := Lib.hid (HE2.out.keep hb2)
    clear hb2 HE2
    go_wp2_with fail
    refine hK.out _ _ ?hSr11 (fun hHeld => ?restr11)
    case hSr11 => exact two_all HE3.out.2.1
    clear hK K
    refine dag_take (i := 16) (v := ?vr16) rfl rfl (by kernel_rfl) (by kernel_rfl) (by kernel_rfl) (fun _ _ _ h => h) (Or.inl ⟨by kernel_rfl, fun w' hSw => ?hyr16⟩) (by assumption) ?restr16
    case hyr16 => ((try dsimp only at hSw); go_simp; (try with_reducible rfl))
    simp only [Act.put]
    refine dag_take (i := 17) (v := ?vr17) rfl rfl (by kernel_rfl) (by kernel_rfl) (by kernel_rfl) (fun _ _ _ h => h) (Or.inl ⟨by kernel_rfl, fun w' hSw => ?hyr17⟩) (by assumption) ?restr17
    case hyr17 => ((try dsimp only at hSw); go_simp; (try with_reducible rfl))
    simp only [Act.put]
    refine dag_take (i := 18) (v := ?vr18) rfl rfl (by kernel_rfl) (by kernel_rfl) (by kernel_rfl) (fun _ _ _ h => h) (Or.inl ⟨by kernel_rfl, fun w' hSw => ?hyr18⟩) (by assumption) ?restr18
    case hyr18 => ((try dsimp only at hSw); go_simp; (try with_reducible rfl))
    simp only [Act.put]
    refine dag_take (i := 19) (v := ?vr19) rfl rfl (by kernel_rfl) (by kernel_rfl) (by kernel_rfl) (fun _ _ _ h => h) (Or.inl ⟨by kernel_rfl, fun w' hSw => ?hyr19⟩) (by assumption) ?restr19
    case hyr19 => ((try dsimp only at hSw); go_simp; (try with_reducible rfl))
    simp only [Act.put]
    refine dag_take (i := 20) (v := ?vr20) rfl rfl (by kernel_rfl) (by kernel_rfl) (by kernel_rfl) (fun _ _ _ h => h) (Or.inl ⟨by kernel_rfl, fun w' hSw => ?hyr20⟩) (by assumption) ?restr20
    case hyr20 => ((try dsimp only at hSw); go_simp; (try with_reducible rfl))
    simp only [Act.put]
    refine dag_take (i := 22) (v := ?vr22) rfl rfl (by kernel_rfl) (by kernel_rfl) (by kernel_rfl) (fun _ _ _ h => h) (Or.inl ⟨by kernel_rfl, fun w' hSw => ?hyr22⟩) (by assumption) ?restr22
    case hyr22 => ((try dsimp only at hSw); go_simp; (try with_reducible rfl))
    simp only [Act.put]
    refine dag_take (i := 23) (v := ?vr23) rfl rfl (by kernel_rfl) (by kernel_rfl) (by kernel_rfl) (fun _ _ _ h => h) (Or.inl ⟨by kernel_rfl, fun w' hSw => ?hyr23⟩) (by assumption) ?restr23
    case hyr23 => ((try dsimp only at hSw); go_simp; (try with_reducible rfl))
    simp only [Act.put]
    refine wpAnyH_ready (rs := [21]) (by kernel_rfl) (by simp) ?_
    refine AllReadyH.cons rfl (fun K hK => ?_) AllReadyH.nil
    go_simp
    try simp only [hwM, eq_self, if_true]
    refine (HP1.out _ HE3.out.2.2.1).mono ?_
    rintro e y3 ⟨rfl, hb3⟩
    have HE4 := Lib.hid (HE3.out.keep hb3)
    clear hb3 HE3
    go_wp2_with fail
    refine hK.out _ _ ?hSr21 (fun hHeld => ?restr21)
    case hSr21 => exact two_all HE4.out.2.1
    clear hK K
    refine wpAnyH_ready (rs := [24]) (by kernel_rfl) (by simp) ?_
    refine AllReadyH.cons rfl (fun K hK => ?_) AllReadyH.nil
    go_simp
    refine (HR1.out _ HE4.out.2.2.2.1).mono ?_
    rintro e y4 ⟨rfl, hb4⟩
    have HE5 := Lib.hid (HE4.out.keep hb4)
    clear hb4 HE4
    go_wp2_with fail
    refine hK.out _ _ ?hSr24 (fun hHeld => ?restr24)
    case hSr24 => exact two_all HE5.out.2.1
    clear hK K
    refine dag_take (i := 25) (v := ?vr25) rfl rfl (by kernel_rfl) (by kernel_rfl) (by kernel_rfl) (fun _ _ _ h => h) (Or.inl ⟨by kernel_rfl, fun w' hSw => ?hyr25⟩) (by assumption) ?restr25
    case hyr25 => ((try dsimp only at hSw); go_simp; (try with_reducible rfl))
    simp only [Act.put]
    refine dag_take (i := 26) (v := ?vr26) rfl rfl (by kernel_rfl) (by kernel_rfl) (by kernel_rfl) (fun _ _ _ h => h) (Or.inl ⟨by kernel_rfl, fun w' hSw => ?hyr26⟩) (by assumption) ?restr26
    case hyr26 => ((try dsimp only at hSw); go_simp; (try with_reducible rfl))
    simp only [Act.put]
    refine dag_take (i := 27) (v := ?vr27) rfl rfl (by kernel_rfl) (by kernel_rfl) (by kernel_rfl) (fun _ _ _ h => h) (Or.inl ⟨by kernel_rfl, fun w' hSw => ?hyr27⟩) (by assumption) ?restr27
    case hyr27 => ((try dsimp only at hSw); go_simp; (try with_reducible rfl))
    simp only [Act.put]
    refine dag_take (i := 28) (v := ?vr28) rfl rfl (by kernel_rfl) (by kernel_rfl) (by kernel_rfl) (fun _ _ _ h => h) (Or.inl ⟨by kernel_rfl, fun w' hSw => ?hyr28⟩) (by assumption) ?restr28
    case hyr28 => ((try dsimp only at hSw); go_simp; (try with_reducible rfl))
    simp only [Act.put]
    refine dag_take (i := 29) (v := ?vr29) rfl rfl (by kernel_rfl) (by kernel_rfl) (by kernel_rfl) (fun _ _ _ h => h) (Or.inl ⟨by kernel_rfl, fun w' hSw => ?hyr29⟩) (by assumption) ?restr29
    case hyr29 => ((try dsimp only at hSw); go_simp; (try with_reducible rfl))
    simp only [Act.put]
    refine dag_take (i := 31) (v := ?vr31) rfl rfl (by kernel_rfl) (by kernel_rfl) (by kernel_rfl) (fun _ _ _ h => h) (Or.inl ⟨by kernel_rfl, fun w' hSw => ?hyr31⟩) (by assumption) ?restr31
    case hyr31 => ((try dsimp only at hSw); go_simp; (try with_reducible rfl))
    simp only [Act.put]
    refine dag_take (i := 32) (v := ?vr32) rfl rfl (by kernel_rfl) (by kernel_rfl) (by kernel_rfl) (fun _ _ _ h => h) (Or.inl ⟨by kernel_rfl, fun w' hSw => ?hyr32⟩) (by assumption) ?restr32
    case hyr32 => ((try dsimp only at hSw); go_simp; (try with_reducible rfl))
    simp only [Act.put]
    refine wpAnyH_ready (rs := [30]) (by kernel_rfl) (by simp) ?_
    refine AllReadyH.cons rfl (fun K hK => ?_) AllReadyH.nil
    go_simp
    refine (HP2.out _ HE5.out.2.2.1).mono ?_
    rintro e y5 ⟨rfl, hb5⟩
    have HE6 := Lib.hid (HE5.out.keep hb5)
    clear hb5 HE5
    go_wp2_with fail
    refine hK.out _ _ ?hSr30 (fun hHeld => ?restr30)
    case hSr30 => exact two_all HE6.out.2.1
    clear hK K
    refine wpAnyH_ready (rs := [33]) (by kernel_rfl) (by simp) ?_
    refine AllReadyH.cons rfl (fun K hK => ?_) AllReadyH.nil
    go_simp
    refine (HR2.out _ HE6.out.2.2.2.1).mono ?_
    rintro e y6 ⟨rfl, hb6⟩
    have HE7 := Lib.hid (HE6.out.keep hb6)
    clear hb6 HE6
    go_wp2_with fail
    refine hK.out _ _ ?hSr33 (fun hHeld => ?restr33)
    case hSr33 => exact two_all HE7.out.2.1
    clear hK K
    refine dag_take (i := 34) (v := ?vr34) rfl rfl (by kernel_rfl) (by kernel_rfl) (by kernel_rfl) (fun _ _ _ h => h) (Or.inl ⟨by kernel_rfl, fun w' hSw => ?hyr34⟩) (by assumption) ?restr34
    case hyr34 => ((try dsimp only at hSw); go_simp; (try with_reducible rfl))
    simp only [Act.put]
    refine dag_take (i := 35) (v := ?vr35) rfl rfl (by kernel_rfl) (by kernel_rfl) (by kernel_rfl) (fun _ _ _ h => h) (Or.inl ⟨by kernel_rfl, fun w' hSw => ?hyr35⟩) (by assumption) ?restr35
    case hyr35 => ((try dsimp only at hSw); go_simp; (try with_reducible rfl))
    simp only [Act.put]
    refine dag_take (i := 36) (v := ?vr36) rfl rfl (by kernel_rfl) (by kernel_rfl) (by kernel_rfl) (fun _ _ _ h => h) (Or.inl ⟨by kernel_rfl, fun w' hSw => ?hyr36⟩) (by assumption) ?restr36
    case hyr36 => ((try dsimp only at hSw); go_simp; (try with_reducible rfl))
    simp only [Act.put]
    refine dag_take (i := 37) (v := ?vr37) rfl rfl (by kernel_rfl) (by kernel_rfl) (by kernel_rfl) (fun _ _ _ h => h) (Or.inl ⟨by kernel_rfl, fun w' hSw => ?hyr37⟩) (by assumption) ?restr37
    case hyr37 => ((try dsimp only at hSw); go_simp; (try with_reducible rfl))
    simp only [Act.put]
    refine dag_take (i := 38) (v := ?vr38) rfl rfl (by kernel_rfl) (by kernel_rfl) (by kernel_rfl) (fun _ _ _ h => h) (Or.inl ⟨by kernel_rfl, fun w' hSw => ?hyr38⟩) (by assumption) ?restr38
    case hyr38 => ((try dsimp only at hSw); go_simp; (try with_reducible rfl))
    simp only [Act.put]
    refine dag_take (i := 40) (v := ?vr40) rfl rfl (by kernel_rfl) (by kernel_rfl) (by kernel_rfl) (fun _ _ _ h => h) (Or.inl ⟨by kernel_rfl, fun w' hSw => ?hyr40⟩) (by assumption) ?restr40
    case hyr40 => ((try dsimp only at hSw); go_simp; (try with_reducible rfl))
    simp only [Act.put]
    refine dag_take (i := 41) (v := ?vr41) rfl rfl (by kernel_rfl) (by kernel_rfl) (by kernel_rfl) (fun _ _ _ h => h) (Or.inl ⟨by kernel_rfl, fun w' hSw => ?hyr41⟩) (by assumption) ?restr41
    case hyr41 => ((try dsimp only at hSw); go_simp; (try with_reducible rfl))
    simp only [Act.put]
    refine wpAnyH_ready (rs := [39]) (by kernel_rfl) (by simp) ?_
    refine AllReadyH.cons rfl (fun K hK => ?_) AllReadyH.nil
    go_simp
    refine (HP3.out _ HE7.out.2.2.1).mono ?_
    rintro e y7 ⟨rfl, hb7⟩
    have HE8 := Lib.hid (HE7.out.keep hb7)
    clear hb7 HE7
    go_wp2_with fail
    refine hK.out _ _ ?hSr39 (fun hHeld => ?restr39)
    case hSr39 => exact two_all HE8.out.2.1
    clear hK K
    refine wpAnyH_ready (rs := [42]) (by kernel_rfl) (by simp) ?_
    refine AllReadyH.cons rfl (fun K hK => ?_) AllReadyH.nil
    go_simp
    refine (HR3.out _ HE8.out.2.2.2.1).mono ?_
    rintro e y8 ⟨rfl, hb8⟩
    have HE9 := Lib.hid (HE8.out.keep hb8)
    clear hb8 HE8
    go_wp2_with fail
    refine hK.out _ _ ?hSr42 (fun hHeld => ?restr42)
    case hSr42 => exact two_all HE9.out.2.1
    clear hK K
    refine dag_take (i := 43) (v := ?vr43) rfl rfl (by kernel_rfl) (by kernel_rfl) (by kernel_rfl) (fun _ _ _ h => h) (Or.inl ⟨by kernel_rfl, fun w' hSw => ?hyr43⟩) (by assumption) ?restr43
    case hyr43 => ((try dsimp only at hSw); go_simp; (try with_reducible rfl))
    simp only [Act.put]
    refine dag_take (i := 44) (v := ?vr44) rfl rfl (by kernel_rfl) (by kernel_rfl) (by kernel_rfl) (fun _ _ _ h => h) (Or.inl ⟨by kernel_rfl, fun w' hSw => ?hyr44⟩) (by assumption) ?restr44
    case hyr44 => ((try dsimp only at hSw); go_simp; (try with_reducible rfl))
    simp only [Act.put]
    refine dag_take (i := 45) (v := ?vr45) rfl rfl (by kernel_rfl) (by kernel_rfl) (by kernel_rfl) (fun _ _ _ h => h) (Or.inl ⟨by kernel_rfl, fun w' hSw => ?hyr45⟩) (by assumption) ?restr45
    case hyr45 => ((try dsimp only at hSw); go_simp; (try with_reducible rfl))
    simp only [Act.put]
    refine dag_take (i := 46) (v := ?vr46) rfl rfl (by kernel_rfl) (by kernel_rfl) (by kernel_rfl) (fun _ _ _ h => h) (Or.inl ⟨by kernel_rfl, fun w' hSw => ?hyr46⟩) (by assumption) ?restr46
    case hyr46 => ((try dsimp only at hSw); go_simp; (try with_reducible rfl))
    simp only [Act.put]
    refine dag_take (i := 47) (v := ?vr47) rfl rfl (by kernel_rfl) (by kernel_rfl) (by kernel_rfl) (fun _ _ _ h => h) (Or.inl ⟨by kernel_rfl, fun w' hSw => ?hyr47⟩) (by assumption) ?restr47
    case hyr47 => ((try dsimp only at hSw); go_simp; (try with_reducible rfl))
    simp only [Act.put]
    refine dag_take (i := 49) (v := ?vr49) rfl rfl (by kernel_rfl) (by kernel_rfl) (by kernel_rfl) (fun _ _ _ h => h) (Or.inl ⟨by kernel_rfl, fun w' hSw => ?hyr49⟩) (by assumption) ?restr49
    case hyr49 => ((try dsimp only at hSw); go_simp; (try with_reducible rfl))
    simp only [Act.put]
    refine dag_take (i := 50) (v := ?vr50) rfl rfl (by kernel_rfl) (by kernel_rfl) (by kernel_rfl) (fun _ _ _ h => h) (Or.inl ⟨by kernel_rfl, fun w' hSw => ?hyr50⟩) (by assumption) ?restr50
    case hyr50 => ((try dsimp only at hSw); go_simp; (try with_reducible rfl))
    simp only [Act.put]
    refine wpAnyH_ready (rs := [48]) (by kernel_rfl) (by simp) ?_
    refine AllReadyH.cons rfl (fun K hK => ?_) AllReadyH.nil
    go_simp
    refine (HP4.out _ HE9.out.2.2.1).mono ?_
    rintro e y9 ⟨hb9, q8, c8, rfl, hr8⟩
    have HE10 := Lib.hid (HE9.out.keep hb9)
    have HR8 := Lib.hid hr8
    clear hr8
    clear hb9 HE9
    go_wp2_with fail
    refine hK.out _ _ ?hSr48 (fun hHeld => ?restr48)
    case hSr48 => exact two_all HE10.out.2.1
    clear hK K
    refine wpAnyH_ready (rs := [51]) (by kernel_rfl) (by simp) ?_
    refine AllReadyH.cons rfl (fun K hK => ?_) AllReadyH.nil
    go_simp
    refine (HR4.out _ HE10.out.2.2.2.1).mono ?_
    rintro e y10 ⟨hb10, q9, c9, rfl, hr9⟩
    have HE11 := Lib.hid (HE10.out.keep hb10)
    have HR9 := Lib.hid (And.intro (HR8.out.over hb10 (Nat.le_refl _)) hr9)
    clear hr9 HR8
    clear hb10 HE10
    go_wp2_with fail
    refine hK.out _ _ ?hSr51 (fun hHeld => ?restr51)
    case hSr51 => exact two_all HE11.out.2.1
    clear hK K
    refine wpAnyH_ready (rs := [52]) (by kernel_rfl) (by simp) ?_
    refine AllReadyH.cons rfl (fun K hK => ?_) AllReadyH.nil
    go_simp
    refine (ints_any q8 q9 c8 c9 L L _ HR9.out.1 HR9.out.2 (Nat.le_trans HLL.out (by omega))).mono ?_
    rw [decide_eq_true (rfl : L = L)]
    rintro e y11 ⟨rfl, md, rfl⟩
    have HE12 := Lib.hid (HE11.out.keep (below_drewN (Below.refl _ _) md))
    clear HE11 HR9
    go_wp2_with fail
    refine hK.out _ _ ?hSr52 (fun hHeld => ?restr52)
    case hSr52 => exact two_all HE12.out.2.1
    clear hK K
    refine dag_take (i := 53) (v := ?vr53) rfl rfl (by kernel_rfl) (by kernel_rfl) (by kernel_rfl) (fun _ _ _ h => h) (Or.inl ⟨by kernel_rfl, fun w' hSw => ?hyr53⟩) (by assumption) ?restr53
    case hyr53 => ((try dsimp only at hSw); go_simp; (try with_reducible rfl))
    simp only [Act.put]
    refine dag_take (i := 54) (v := ?vr54) rfl rfl (by kernel_rfl) (by kernel_rfl) (by kernel_rfl) (fun _ _ _ h => h) (Or.inl ⟨by kernel_rfl, fun w' hSw => ?hyr54⟩) (by assumption) ?restr54
    case hyr54 => ((try dsimp only at hSw); go_simp; (try with_reducible rfl))
    simp only [Act.put]
    refine dag_take (i := 55) (v := ?vr55) rfl rfl (by kernel_rfl) (by kernel_rfl) (by kernel_rfl) (fun _ _ _ h => h) (Or.inl ⟨by kernel_rfl, fun w' hSw => ?hyr55⟩) (by assumption) ?restr55
    case hyr55 => ((try dsimp only at hSw); go_simp; (try with_reducible rfl))
    simp only [Act.put]
    refine dag_take (i := 57) (v := ?vr57) rfl rfl (by kernel_rfl) (by kernel_rfl) (by kernel_rfl) (fun _ _ _ h => h) (Or.inl ⟨by kernel_rfl, fun w' hSw => ?hyr57⟩) (by assumption) ?restr57
    case hyr57 => ((try dsimp only at hSw); go_simp; (try with_reducible rfl))
    simp only [Act.put]
    refine wpAnyH_ready (rs := [56]) (by kernel_rfl) (by simp) ?_
    refine AllReadyH.cons rfl (fun K hK => ?_) AllReadyH.nil
    go_simp
    refine (HP5.out _).mono ?_
    rintro e y12 ⟨rfl, hb12⟩
    have HE13 := Lib.hid (HE12.out.keep hb12)
    clear hb12 HE12
    go_wp2_with fail
    refine hK.out _ _ ?hSr56 (fun hHeld => ?restr56)
    case hSr56 => exact two_all HE13.out.2.1
    clear hK K
    refine wpAnyH_ready (rs := [58]) (by kernel_rfl) (by simp) ?_
    refine AllReadyH.cons rfl (fun K hK => ?_) AllReadyH.nil
    go_simp
    refine (HR5.out _).mono ?_
    rintro e y13 ⟨rfl, hb13⟩
    have HE14 := Lib.hid (HE13.out.keep hb13)
    clear hb13 HE13
    go_wp2_with fail
    refine hK.out _ _ ?hSr58 (fun hHeld => ?restr58)
    case hSr58 => exact two_all HE14.out.2.1
    clear hK K
    refine dag_take (i := 59) (v := ?vr59) rfl rfl (by kernel_rfl) (by kernel_rfl) (by kernel_rfl) (fun _ _ _ h => h) (Or.inl ⟨by kernel_rfl, fun w' hSw => ?hyr59⟩) (by assumption) ?restr59
    case hyr59 => ((try dsimp only at hSw); go_simp; (try with_reducible rfl))
    simp only [Act.put]
    refine dag_take (i := 60) (v := ?vr60) rfl rfl (by kernel_rfl) (by kernel_rfl) (by kernel_rfl) (fun _ _ _ h => h) (Or.inl ⟨by kernel_rfl, fun w' hSw => ?hyr60⟩) (by assumption) ?restr60
    case hyr60 => ((try dsimp only at hSw); go_simp; (try with_reducible rfl))
    simp only [Act.put]
    refine dag_take (i := 61) (v := ?vr61) rfl rfl (by kernel_rfl) (by kernel_rfl) (by kernel_rfl) (fun _ _ _ h => h) (Or.inl ⟨by kernel_rfl, fun w' hSw => ?hyr61⟩) (by assumption) ?restr61
    case hyr61 => ((try dsimp only at hSw); go_simp; (try with_reducible rfl))
    simp only [Act.put]
    refine dag_take (i := 62) (v := ?vr62) rfl rfl (by kernel_rfl) (by kernel_rfl) (by kernel_rfl) (fun _ _ _ h => h) (Or.inl ⟨by kernel_rfl, fun w' hSw => ?hyr62⟩) (by assumption) ?restr62
    case hyr62 => ((try dsimp only at hSw); go_simp; (try with_reducible rfl))
    simp only [Act.put]
    refine dag_take (i := 64) (v := ?vr64) rfl rfl (by kernel_rfl) (by kernel_rfl) (by kernel_rfl) (fun _ _ _ h => h) (Or.inl ⟨by kernel_rfl, fun w' hSw => ?hyr64⟩) (by assumption) ?restr64
    case hyr64 => ((try dsimp only at hSw); go_simp; (try with_reducible rfl))
    simp only [Act.put]
    refine wpAnyH_ready (rs := [63]) (by kernel_rfl) (by simp) ?_
    refine AllReadyH.cons rfl (fun K hK => ?_) AllReadyH.nil
    go_simp
    refine (HP6.out _).mono ?_
    rintro e y14 ⟨rfl, hb14⟩
    have HE15 := Lib.hid (HE14.out.keep hb14)
    clear hb14 HE14
    go_wp2_with fail
    refine hK.out _ _ ?hSr63 (fun hHeld => ?restr63)
    case hSr63 => exact two_all HE15.out.2.1
    clear hK K
    refine wpAnyH_ready (rs := [65]) (by kernel_rfl) (by simp) ?_
    refine AllReadyH.cons rfl (fun K hK => ?_) AllReadyH.nil
    go_simp
    refine (HR6.out _).mono ?_
    rintro e y15 ⟨rfl, hb15⟩
    have HE16 := Lib.hid (HE15.out.keep hb15)
    clear hb15 HE15
    go_wp2_with fail
    refine hK.out _ _ ?hSr65 (fun hHeld => ?restr65)
    case hSr65 => exact two_all HE16.out.2.1
    clear hK K
    refine dag_take (i := 66) (v := ?vr66) rfl rfl (by kernel_rfl) (by kernel_rfl) (by kernel_rfl) (fun _ _ _ h => h) (Or.inl ⟨by kernel_rfl, fun w' hSw => ?hyr66⟩) (by assumption) ?restr66
    case hyr66 => ((try dsimp only at hSw); go_simp; (try with_reducible rfl))
    simp only [Act.put]
    refine dag_take (i := 67) (v := ?vr67) rfl rfl (by kernel_rfl) (by kernel_rfl) (by kernel_rfl) (fun _ _ _ h => h) (Or.inl ⟨by kernel_rfl, fun w' hSw => ?hyr67⟩) (by assumption) ?restr67
    case hyr67 => ((try dsimp only at hSw); go_simp; (try with_reducible rfl))
    simp only [Act.put]
    refine dag_take (i := 68) (v := ?vr68) rfl rfl (by kernel_rfl) (by kernel_rfl) (by kernel_rfl) (fun _ _ _ h => h) (Or.inl ⟨by kernel_rfl, fun w' hSw => ?hyr68⟩) (by assumption) ?restr68
    case hyr68 => ((try dsimp only at hSw); go_simp; (try with_reducible rfl))
    simp only [Act.put]
    refine wpAnyH_ready (rs := [69]) (by kernel_rfl) (by simp) ?_
    refine AllReadyH.cons rfl (fun K hK => ?_) AllReadyH.nil
    go_simp
    refine (awake_any _).mono ?_
    rintro e y16 ⟨rfl, hb16⟩
    have HE17 := Lib.hid (HE16.out.keep hb16)
    clear hb16 HE16
    go_wp2_with fail
    refine hK.out _ _ ?hSr69 (fun hHeld => ?restr69)
    case hSr69 => exact two_all HE17.out.2.1
    clear hK K
    refine dag_take (i := 70) (v := ?vr70) rfl rfl (by kernel_rfl) (by kernel_rfl) (by kernel_rfl) (fun _ _ _ h => h) (Or.inl ⟨by kernel_rfl, fun w' hSw => ?hyr70⟩) (by assumption) ?restr70
    case hyr70 => ((try dsimp only at hSw); go_simp; (try with_reducible rfl))
    simp only [Act.put]
    refine wpAnyH_ready (rs := [71]) (by kernel_rfl) (by simp) ?_
    refine AllReadyH.cons rfl (fun K hK => ?_) AllReadyH.nil
    go_simp
    refine hK.out _ _ (by assumption) (fun hHeld => ?_)
    clear hK K
    refine wpAnyH_done (by kernel_rfl) ?_ _
    go_wp2
    go_ret
    exact ⟨rfl, HE17.out.1⟩
  · have i1 : (l.length : Int) > 60 := by omega
    go_enter Try.func3, Try.ntmps3
    go_wp2_with fail
    refine (awake_any _).mono ?_
    rintro e w1 ⟨rfl, hb1⟩
    have HB := Lib.hid (HBX.out.trans (hb1.mono HBX.out.size))
    clear hb1
    go_wp2
    go_ret
    exact ⟨rfl, HB.out⟩
theorem own : ownKnob Try.prog.godebug = none := by kernel_rfl
theorem laidOut : laidOutB Try.prog = true := by kernel_rfl
set_option maxRecDepth 100000 in
theorem lifted (os : Os) (started : os.Started) (H : Type) (enc : TypeId × Value → H) :
    ReturnsInHanded {} Try.checked os 3 .any (Rows.csrTellsSpec.pre6 enc Try.prog Try.f3 Rows.csrTellsRow.domain false) (Rows.csrTellsSpec.post enc Try.prog Try.f3 false true false false) := by
  refine returnsInHanded_of_change (C := Try.checked) own started (by kernel_rfl) Try.func3
    (ChangeSpec.witness6 (enc := enc) (C := Try.checked) false ⟨#[], #[.int .u8 0, .slice none 0 0, .agg #[.int .i64 0, .int .i64 0]], []⟩ 8 (by kernel_rfl) (by kernel_rfl) (by kernel_rfl) (by kernel_rfl)) ?_
  intro W base args ds gs before hval0 hW hcnd _
  have hval : ∀ (j : Nat) t v, Try.f3.params[j]? = some t → args[j]? = some v → Value.okWide Try.prog W .any base t v := hval0
  have hW' := hW
  obtain ⟨p, q, hA0, hV, rfl, hfz, hnd⟩ := hW
  have hA : DataW.TrodAll enc Try.prog W 0 (fun _ => true) true Try.f3.params.toList args.toList ds p := hA0
  rw [Try.params3] at hA hval
  obtain ⟨v0, vs0, d0, ds0, p0, q0, hargs, rfl, rfl, h0, r0⟩ := trodAll_cons hA
  obtain ⟨v1, vs1, d1, ds1, p1, q1, rfl, rfl, rfl, h1, r1⟩ := trodAll_cons r0
  obtain ⟨v2, vs2, d2, ds2, p2, q2, rfl, rfl, rfl, h2, r2⟩ := trodAll_cons r1
  obtain ⟨rfl, rfl, rfl⟩ := trodAll_nil r2
  obtain rfl : args = #[v0, v1, v2] := by cases args; simp_all
  obtain ⟨rfl, rfl⟩ := trodVars_none hV
  obtain ⟨a0, rfl, rfl, rfl, w0⟩ := open_int Try.underlying5 (hval 0 5 v0 rfl rfl) h0
  obtain ⟨a1, len1, cap1, rfl⟩ := okWide_slice Try.underlying22 (hval 1 22 v1 rfl rfl)
  have k1 := h1
  have lt1 : ∀ x ∈ p1, x.block < W.heap.size := by obtain ⟨m, hm⟩ := k1; exact DataW.trod_lt m _ _ _ hm
  obtain ⟨l1, hlen1, w1⟩ : ∃ l : List Ed, l.length = len1 ∧ EdIn W a1 l ∧ l.length ≤ maxLen := by
    obtain ⟨fuel, hf⟩ := h1
    exact open_edges hf
  subst hlen1
  have k2 := h2
  have lt2 : ∀ x ∈ p2, x.block < W.heap.size := by obtain ⟨m, hm⟩ := k2; exact DataW.trod_lt m _ _ _ hm
  obtain ⟨a2, rfl, w2⟩ := open_pairV (hval 2 23 v2 rfl rfl) h2
  clear hA0 hval0
  refine (walk_list a0 w0 a1 cap1 l1 a2 W w1.1 w1.2 w2).mono fun e W' ⟨he, bel⟩ => ?_
  subst he
  exact ⟨_, rfl, _, _, _, [], _, [], hW', trodAll_mk1 (shut_bool Try.underlying4 _), (trodAll_cons_mk (shut_int Try.underlying5 w0) (trodAll_cons_mk (Below.trod laidOut (by kernel_rfl) (of_decide_eq_true (by kernel_rfl)) k1 bel lt1) (trodAll_cons_mk (Below.trod laidOut (by kernel_rfl) (of_decide_eq_true (by kernel_rfl)) k2 bel lt2) trodAll_mk0))), rfl, bel.frame _, fun h => by cases h⟩
theorem over : Rows.csrTellsRow.holds Try.pinned (OpenSpec.ofChange Rows.csrTellsSpec) :=
  OpenClaim.holds_of_wide 3 Try.f3 rfl rfl rfl rfl rfl rfl rfl ⟨rfl, rfl, rfl, rfl, rfl⟩ rfl rfl rfl rfl rfl (by kernel_rfl) Try.func3 (by kernel_rfl)
    (of_decide_eq_true (by kernel_rfl)) (by unfold Func.isWrapper; first | (rw [if_pos (by decide +kernel)]; kernel_rfl) | (rw [if_neg (by decide +kernel)]; exact ⟨rfl, rfl⟩))
    (fun os started H enc _ => lifted os started H enc)
/-- The statement. -/
theorem proved : Rows.CsrTellsSaid := over
#print axioms proved
end Go.Proofs.Ytaoocokcfppmaaa.csrTells
