/- What is told of the classes of any graph, by all edges and by heavy ones, is what the document says; of none there is nothing. Conditions: none: every number of vertices up to 255, every slice of edges (of more than 60 the law asks only that the program tells classes at all), every two numbers. -/
import Derived.Test.YtmohfmhkhldhnaaGreatPk35
import Derived.Test.YtmohfmhkhldhnaaGreatPk37
import Derived.Test.YtmohfmhkhldhnaaGreatChecked
import Derived.Test.YtmohfmhkhldhnaaGreatRows
import Derived.ChangeSlices
import Derived.ProofKit
import Derived.OpenShut
import Derived.ChangeOld
import Derived.Below
import Derived.Carry
namespace Go.Proofs.YtmohfmhkhldhnaaGreat.compTells
open Go.ChangeShapes Go.WideShapes Go.ChangeAt Go.RowKit EdPure NtPure DsuPure CmPure Ds Cm
@[go_sem] theorem made_g (x y z u : Value) (w : World) : (Instr.field 39 (.agg #[x, y, z, u]) 0).run Tryz.prog w = .ok (.agg #[x, y]) w := by kernel_rfl
/-- What stands: the two numbers, the document's graph, the program's. -/
def TellSt (w : World) (X X0 : Nat) (u v : Int) (q : Option Addr) (c N : Nat) (M : List Ed) (g : Nat) (W : World) : Prop :=
  Below w.heap.size w W ∧ TwoAt X W (.int .i64 (N : Int)) (.slice q M.length c) ∧ NetAt (some ⟨g, 0, none⟩) N M W ∧ ReadsE W.heap.size W q M ∧ TwoAt X0 W (.int .i64 u) (.int .i64 v)
theorem TellSt.keep {w W W' : World} {X X0 : Nat} {u v : Int} {q : Option Addr} {c N : Nat} {M : List Ed} {g : Nat} (h : TellSt w X X0 u v q c N M g W) (hb : Below W.heap.size W W') : TellSt w X X0 u v q c N M g W' :=
  ⟨h.1.trans (hb.mono h.1.size), h.2.1.on hb h.2.1.lt, h.2.2.1.over hb, h.2.2.2.1.over hb (Nat.le_refl _), h.2.2.2.2.on hb h.2.2.2.2.lt⟩
theorem TellSt.four {w W : World} {X X0 : Nat} {u v : Int} {q : Option Addr} {c N : Nat} {M : List Ed} {g : Nat} (h : TellSt w X X0 u v q c N M g W) :
    (W.cell? ⟨X, 0, none⟩ = some (.int .i64 (N : Int)) ∧ W.cell? ⟨X, 1, none⟩ = some (.slice q M.length c)) ∧ W.cell? ⟨X0, 0, none⟩ = some (.int .i64 u) ∧ W.cell? ⟨X0, 1, none⟩ = some (.int .i64 v) :=
  ⟨two_all h.2.1, two_all h.2.2.2.2⟩
theorem ints_true (a a' : Option Addr) (c1 c2 : Nat) (l : List Int) (w : World) (h1 : ReadsL encZ w.heap.size w a l) (h2 : ReadsL encZ w.heap.size w a' l) (hl : l.length ≤ 1000000000) :
    Calls Tryz.prog 17 #[.slice a l.length c1, .slice a' l.length c2] w fun e w' => e = .returned (.bool true) ∧ ∃ m, w' = w.drewN m := by
  have h := ints_any a a' c1 c2 l l w h1 h2 hl
  rw [decide_eq_true (rfl : l = l)] at h
  exact h
theorem reach_few {N : Nat} {p : Nat → Nat} {v : Int} (hN : N ≤ 4096) : (reachL N p v).length ≤ 1000000000 := by
  unfold reachL
  split
  · exact Nat.le_trans (DsuPure.rowL_le _ _ _) (by omega)
  · simp
set_option maxRecDepth 100000 in
set_option maxHeartbeats 2000000 in
theorem walk_list (n : Int) (hn : (Lit.int .u8 n).wf = true) (a : Option Addr) (cap : Nat) (l : List Ed) (x : Int × Int) (W : World) (h1 : EdIn W a l) (_h2 : l.length ≤ maxLen) (hx : (-9223372036854775808 ≤ x.1 ∧ x.1 ≤ 9223372036854775807) ∧ -9223372036854775808 ≤ x.2 ∧ x.2 ≤ 9223372036854775807) :
    Calls Tryz.prog 3 #[.int .u8 n, .slice a l.length cap, .agg #[.int .i64 x.1, .int .i64 x.2]] W fun r w' => r = .returned (.bool true) ∧ Below W.heap.size W w' := by
  obtain ⟨u, v⟩ := x
  simp only at hx ⊢
  obtain ⟨⟨u0, u1⟩, v0, v1⟩ := hx
  obtain ⟨n0, n1⟩ : 0 ≤ n ∧ n ≤ 255 := bounds_u8 hn
  have hbX : Below W.heap.size W (W.alloc (.cells #[.int .i64 u, .int .i64 v] 23)) := (Below.refl _ _).alloc (Nat.le_refl _) _
  have HBX := Lib.hid hbX
  have HTX := Lib.hid (TwoAt.new W (.int .i64 u) (.int .i64 v) 23)
  clear hn
  by_cases hlen : l.length ≤ 60
  · have i1 : ¬ (l.length : Int) > 60 := by omega
    have HL := Lib.hid (h1.2.over hbX (Nat.le_refl _))
    have HNew := Lib.hid (newU_any n a cap l h1.1 _ HL.out)
    have HRe := Lib.hid (fun w hR => refU_any n a cap l (by omega) h1.1 w hR)
    obtain ⟨e1, e2, he⟩ : ∃ e1 e2, errN n l = (e1, e2) := ⟨_, _, rfl⟩
    have HEQ := Lib.hid he
    unfold NewU Kind at HNew
    unfold RefU at HRe
    rw [he] at HNew HRe
    simp only at HNew HRe
    clear h1 he hbX
    go_enter Tryz.func3, Tryz.ntmps3
    go_upto_region 1 with fail
    generalize W.alloc (.cells #[.int .i64 u, .int .i64 v] 23) = W0 at *
    go_wp2_with fail
    refine HNew.out.mono ?_
    rintro e w1 ⟨hb1, p, N, M, rfl, hnt, ⟨hN, hM, hG⟩, ⟨hz, rfl, rfl, rfl⟩ | ⟨hz, ⟨g0, rfl⟩, hnN, hm⟩⟩
    · have t1 : (e1 != 0) = true := by simpa using hz
      have HB1 := Lib.hid (HBX.out.trans (hb1.mono HBX.out.size))
      have HT1 := Lib.hid (HTX.out.on hb1 HTX.out.lt)
      clear hnt hN hM hG HRe HNew hb1 hz HBX HTX
      go_wp2_with fail
      refine (compOf_any none 0 [] (by omega) (GoodN.nil _) (by simp) _ (NetAt.nil _)).mono ?_
      rintro e w2 ⟨hb2, q2, c2, M2, rfl, -, -⟩
      have z2 : (listsP 0 (namH 0 [] 0)).length = 0 := rfl
      have HB2 := Lib.hid (HB1.out.trans (hb2.mono HB1.out.size))
      have HT2 := Lib.hid (HT1.out.on hb2 HT1.out.lt)
      clear hb2 HB1 HT1
      go_wp2_with fail
      refine (compHeavy_any none 0 [] (by omega) (GoodN.nil _) (by simp) 0 _ (NetAt.nil _)).mono ?_
      rintro e w3 ⟨hb3, q3, c3, M3, rfl, -, -⟩
      have HB3 := Lib.hid (HB2.out.trans (hb3.mono HB2.out.size))
      have HT3 := Lib.hid (HT2.out.on hb3 HT2.out.lt)
      clear hb3 HB2 HT2
      go_wp2_with fail
      refine (compReach_any none 0 [] (by omega) (GoodN.nil _) (by simp) 0 _ (NetAt.nil _)).mono ?_
      rintro e w4 ⟨hb4, q4, c4, rfl, -⟩
      have z4 : (reachL 0 (namH 0 [] 0) 0).length = 0 := rfl
      have HB4 := Lib.hid (HB3.out.trans (hb4.mono HB3.out.size))
      have HT4 := Lib.hid (HT3.out.on hb4 HT3.out.lt)
      clear hb4 HB3 HT3
      go_wp2_with fail
      refine (compCount_any none 0 [] (by omega) (GoodN.nil _) (by simp) _ (NetAt.nil _)).mono ?_
      rintro e w5 ⟨rfl, hb5⟩
      have HB5 := Lib.hid (HB4.out.trans (hb5.mono HB4.out.size))
      have HT5 := Lib.hid (HT4.out.on hb5 HT4.out.lt)
      clear hb5 HB4 HT4
      go_wp2_with fail
      refine (compBridges_any none 0 [] (by omega) (GoodN.nil _) (by simp) _ (NetAt.nil _)).mono ?_
      rintro e w6 ⟨hb6, q6, c6, rfl, -⟩
      have z6 : (zN (brL 0 [] 0)).length = 0 := rfl
      have HB6 := Lib.hid (HB5.out.trans (hb6.mono HB5.out.size))
      have HT6 := Lib.hid (HT5.out.on hb6 HT5.out.lt)
      clear hb6 HB5 HT5
      go_wp2_with fail
      refine (compName_any none 0 [] (by omega) (GoodN.nil _) (by simp) _ (NetAt.nil _)).mono ?_
      rintro e w7 ⟨hb7, q7, c7, rfl, -⟩
      have z7 : (nameL 0 (namH 0 [] 0)).length = 0 := rfl
      have HB7 := Lib.hid (HB6.out.trans (hb7.mono HB6.out.size))
      have HT7 := Lib.hid (HT6.out.on hb7 HT6.out.lt)
      clear hb7 HB6 HT6
      go_wp2_with fail
      refine (awake_any _).mono ?_
      rintro e w8 ⟨rfl, hb8⟩
      have HB8 := Lib.hid (HB7.out.trans (hb8.mono HB7.out.size))
      clear hb8
      go_wp2
      go_ret
      exact ⟨rfl, HB8.out⟩
    simp only [Prod.mk.injEq] at hz
    obtain ⟨rfl, rfl⟩ := hz
    subst hnN
    have hM2 : M.length ≤ 60 := by
      have hc : ∀ e ∈ l, chkE (N : Int) e = 0 := by
        have h := congrArg (·.1) HEQ.out
        unfold errN at h
        rw [if_neg (by omega), if_neg (by omega)] at h
        exact chkL_good h
      obtain ⟨M', m1, m2, m3⟩ := merged (fun e he => by
        have h := hc e he
        unfold chkE at h
        split at h
        · next h1 => split at h
                     · next h2 => exact ⟨by unfold In; omega, by unfold In; omega, by unfold In; omega⟩
                     · omega
        · omega) hc (by omega)
      obtain rfl := Option.some.inj (m1.symm.trans hm)
      omega
    have HM : Hid (M.length ≤ 10000) := Lib.hid (by omega)
    have HB1 := Lib.hid (HBX.out.trans (hb1.mono HBX.out.size))
    have HT1 := Lib.hid (HTX.out.on hb1 HTX.out.lt)
    have HN1 := Lib.hid hnt
    have HL1 := Lib.hid (HL.out.over hb1 (Nat.le_refl _))
    have HMM := Lib.hid hm
    have HLS : Hid (∀ least, (listsP N (namH N M least)).length ≤ 1000000) := Lib.hid (fun least => Nat.le_trans lists_few (by omega))
    have HLR : Hid (∀ least, ∀ r ∈ listsP N (namH N M least), r.length ≤ 1000000) := Lib.hid (fun least r hr => Nat.le_trans (lists_rows r hr) (by omega))
    have HGG := Lib.hid hG
    have HNN := Lib.hid hN
    clear hb1 hm HNew HBX HTX HL HEQ hG hnt
    go_wp2_with fail
    refine (HRe.out _ HL1.out).mono ?_
    rintro e w3 ⟨hb3, x, q, c, M2, rfl, hr3, ⟨hno, -⟩ | ⟨-, hx, hm2⟩⟩
    · exact absurd rfl hno
    obtain rfl : M = M2 := Option.some.inj (HMM.out.symm.trans hm2)
    subst hx
    have HB3 := Lib.hid (HB1.out.trans (hb3.mono HB1.out.size))
    have hbA : Below w3.heap.size w3 (w3.alloc (.cells #[.int .i64 (N : Int), .slice q M.length c] 37)) := (Below.refl _ _).alloc (Nat.le_refl _) _
    have hbB := hb3.trans (hbA.mono hb3.size)
    have HE0 : Hid (TellSt W w3.heap.size W.heap.size u v q c N M g0 (w3.alloc (.cells #[.int .i64 (N : Int), .slice q M.length c] 37))) :=
      Lib.hid ⟨HB3.out.trans (hbA.mono HB3.out.size), TwoAt.new _ _ _ _, HN1.out.over hbB, hr3.over hbA (Nat.le_refl _), HT1.out.on hbB HT1.out.lt⟩
    clear hb3 hbA hbB hr3 hm2 HB1 HT1 HN1 HL1 HRe HMM HB3
    go_upto_region 6 with fail
    generalize w3.alloc (.cells #[.int .i64 (N : Int), .slice q M.length c] 37) = V0 at *
    generalize w3.heap.size = X at *
    generalize W.heap.size = X0 at *
    obtain ⟨d0, d1, -, -⟩ := HE0.out.2.1
    obtain ⟨c0, c1, -, -⟩ := HE0.out.2.2.2.2
    go_wp2_with fail
    clear d0 d1 c0 c1
    have HP1 := Lib.hid (fun w h => compOf_any (some ⟨g0, 0, none⟩) N M HNN.out HGG.out HM.out w h)
    have HP2 := Lib.hid (fun w h => compHeavy_any (some ⟨g0, 0, none⟩) N M HNN.out HGG.out HM.out u w h)
    have HP3 := Lib.hid (fun w h => compCount_any (some ⟨g0, 0, none⟩) N M HNN.out HGG.out HM.out w h)
    have HP4 := Lib.hid (fun w h => compReach_any (some ⟨g0, 0, none⟩) N M HNN.out HGG.out HM.out v w h)
    have HP5 := Lib.hid (fun w h => compName_any (some ⟨g0, 0, none⟩) N M HNN.out HGG.out HM.out w h)
    have HR1 := Lib.hid (fun w h => refOf_any N HNN.out q c M (by omega) w h)
    have HR2 := Lib.hid (fun w h => refHeavy_any N HNN.out q c M (by omega) u w h)
    have HR4 := Lib.hid (fun w h => refReach_any N HNN.out q c M (by omega) v w h)
    have HR5 := Lib.hid (fun w h => refName_any N HNN.out q c M (by omega) w h)
    have HL1 := Lib.hid (And.intro (HLS.out 0) (HLR.out 0))
    have HL2 := Lib.hid (And.intro (HLS.out u) (HLR.out u))
    have HL4 : Hid ((reachL N (namH N M 0) v).length ≤ 1000000000) := Lib.hid (reach_few HNN.out)
    have HL5 : Hid ((nameL N (namH N M 0)).length ≤ 1000000000) := Lib.hid (by unfold nameL; simp; omega)
    unfold RowsOut at HP1 HP2 HR1 HR2
    unfold IntsOf at HP4 HP5 HR4 HR5
    clear HLS HLR
    generalize listsP N (namH N M 0) = L1 at *
    generalize listsP N (namH N M u) = L2 at *
    generalize reachL N (namH N M 0) v = L4 at *
    generalize nameL N (namH N M 0) = L5 at *
    have b1 : ((L1.length : Int) == (L1.length : Int)) = true := beq_self_eq_true _
    have HE1 : Hid (TellSt W X X0 u v q c N M g0 V0.drew) := Lib.hid (HE0.out.keep ((Below.refl _ _).drew))
    clear HE0
    refine wp_region_held_drew (S := fun W' => (W'.cell? ⟨X, 0, none⟩ = some (.int .i64 (N : Int)) ∧ W'.cell? ⟨X, 1, none⟩ = some (.slice q M.length c)) ∧ W'.cell? ⟨X0, 0, none⟩ = some (.int .i64 u) ∧ W'.cell? ⟨X0, 1, none⟩ = some (.int .i64 v)) (by kernel_rfl) (TellSt.four HE1.out) (fun hHeld => ?_)
    refine dag_take (i := 0) (v := ?vr0) rfl rfl (by kernel_rfl) (by kernel_rfl) (by kernel_rfl) (fun _ _ _ h => h) (Or.inl ⟨by kernel_rfl, fun w' hSw => ?hyr0⟩) (by assumption) ?restr0
    case hyr0 => ((try dsimp only at hSw); go_simp; (try with_reducible rfl))
    simp only [Act.put]
    refine dag_take (i := 2) (v := ?vr2) rfl rfl (by kernel_rfl) (by kernel_rfl) (by kernel_rfl) (fun _ _ _ h => h) (Or.inl ⟨by kernel_rfl, fun w' hSw => ?hyr2⟩) (by assumption) ?restr2
    case hyr2 => ((try dsimp only at hSw); go_simp; (try with_reducible rfl))
    simp only [Act.put]
    refine wpAnyH_ready (rs := [1]) (by kernel_rfl) (by simp) ?_
    refine AllReadyH.cons rfl (fun K hK => ?_) AllReadyH.nil
    go_simp
    refine (HP1.out _ HE1.out.2.2.1).mono ?_
    rintro e y1 ⟨hb, q8, c8, M8, rfl, hr, -⟩
    have HE2 := Lib.hid (HE1.out.keep hb)
    have HQ := Lib.hid hr
    clear hr
    clear hb HE1
    go_wp2_with fail
    refine hK.out _ _ ?hSr1 (fun hHeld => ?restr1)
    case hSr1 => exact TellSt.four HE2.out
    clear hK K
    refine wpAnyH_ready (rs := [3]) (by kernel_rfl) (by simp) ?_
    refine AllReadyH.cons rfl (fun K hK => ?_) AllReadyH.nil
    go_simp
    refine (HR1.out _ HE2.out.2.2.2.1).mono ?_
    rintro e y2 ⟨hb, q9, c9, M9, rfl, hr, -⟩
    have HE3 := Lib.hid (HE2.out.keep hb)
    have HQ2 := Lib.hid (And.intro (HQ.out.keep hb) hr)
    clear hr
    clear hb HE2
    go_wp2_with fail
    refine hK.out _ _ ?hSr3 (fun hHeld => ?restr3)
    case hSr3 => exact TellSt.four HE3.out
    clear hK K
    refine wpAnyH_ready (rs := [4]) (by kernel_rfl) (by simp) ?_
    refine AllReadyH.cons rfl (fun K hK => ?_) AllReadyH.nil
    go_simp
    refine (lists_true _ _ q8 q9 c8 c9 L1 _ HQ2.out.1 HQ2.out.2 HL1.out.1 HL1.out.2).mono ?_
    rintro e y3 ⟨rfl, md, rfl⟩
    have HE4 := Lib.hid (HE3.out.keep (below_drewN (Below.refl _ _) md))
    clear HE3 HQ HQ2
    go_wp2_with fail
    refine hK.out _ _ ?hSr4 (fun hHeld => ?restr4)
    case hSr4 => exact TellSt.four HE4.out
    clear hK K
    refine dag_take (i := 5) (v := ?vr5) rfl rfl (by kernel_rfl) (by kernel_rfl) (by kernel_rfl) (fun _ _ _ h => h) (Or.inl ⟨by kernel_rfl, fun w' hSw => ?hyr5⟩) (by assumption) ?restr5
    case hyr5 => ((try dsimp only at hSw); go_simp; (try with_reducible rfl))
    simp only [Act.put]
    refine dag_take (i := 6) (v := ?vr6) rfl rfl (by kernel_rfl) (by kernel_rfl) (by kernel_rfl) (fun _ _ _ h => h) (Or.inl ⟨by kernel_rfl, fun w' hSw => ?hyr6⟩) (by assumption) ?restr6
    case hyr6 => ((try dsimp only at hSw); go_simp; (try with_reducible rfl))
    simp only [Act.put]
    refine dag_take (i := 7) (v := ?vr7) rfl rfl (by kernel_rfl) (by kernel_rfl) (by kernel_rfl) (fun _ _ _ h => h) (Or.inl ⟨by kernel_rfl, fun w' hSw => ?hyr7⟩) (by assumption) ?restr7
    case hyr7 => ((try dsimp only at hSw); go_simp; (try with_reducible rfl))
    simp only [Act.put]
    refine dag_take (i := 8) (v := ?vr8) rfl rfl (by kernel_rfl) (by kernel_rfl) (by kernel_rfl) (fun _ _ _ h => h) (Or.inl ⟨by kernel_rfl, fun w' hSw => ?hyr8⟩) (by assumption) ?restr8
    case hyr8 => ((try dsimp only at hSw); go_simp; (try with_reducible rfl))
    simp only [Act.put]
    refine dag_take (i := 10) (v := ?vr10) rfl rfl (by kernel_rfl) (by kernel_rfl) (by kernel_rfl) (fun _ _ _ h => h) (Or.inl ⟨by kernel_rfl, fun w' hSw => ?hyr10⟩) (by assumption) ?restr10
    case hyr10 => ((try dsimp only at hSw); go_simp; (try with_reducible rfl))
    simp only [Act.put]
    refine dag_take (i := 11) (v := ?vr11) rfl rfl (by kernel_rfl) (by kernel_rfl) (by kernel_rfl) (fun _ _ _ h => h) (Or.inl ⟨by kernel_rfl, fun w' hSw => ?hyr11⟩) (by assumption) ?restr11
    case hyr11 => ((try dsimp only at hSw); go_simp; (try with_reducible rfl))
    simp only [Act.put]
    refine dag_take (i := 12) (v := ?vr12) rfl rfl (by kernel_rfl) (by kernel_rfl) (by kernel_rfl) (fun _ _ _ h => h) (Or.inl ⟨by kernel_rfl, fun w' hSw => ?hyr12⟩) (by assumption) ?restr12
    case hyr12 => ((try dsimp only at hSw); go_simp; (try with_reducible rfl))
    simp only [Act.put]
    refine wpAnyH_ready (rs := [9]) (by kernel_rfl) (by simp) ?_
    refine AllReadyH.cons rfl (fun K hK => ?_) AllReadyH.nil
    go_simp
    refine (HP2.out _ HE4.out.2.2.1).mono ?_
    rintro e y4 ⟨hb, q8, c8, M8, rfl, hr, -⟩
    have HE5 := Lib.hid (HE4.out.keep hb)
    have HQ := Lib.hid hr
    clear hr
    clear hb HE4
    go_wp2_with fail
    refine hK.out _ _ ?hSr9 (fun hHeld => ?restr9)
    case hSr9 => exact TellSt.four HE5.out
    clear hK K
    refine wpAnyH_ready (rs := [13]) (by kernel_rfl) (by simp) ?_
    refine AllReadyH.cons rfl (fun K hK => ?_) AllReadyH.nil
    go_simp
    refine (HR2.out _ HE5.out.2.2.2.1).mono ?_
    rintro e y5 ⟨hb, q9, c9, M9, rfl, hr, -⟩
    have HE6 := Lib.hid (HE5.out.keep hb)
    have HQ2 := Lib.hid (And.intro (HQ.out.keep hb) hr)
    clear hr
    clear hb HE5
    go_wp2_with fail
    refine hK.out _ _ ?hSr13 (fun hHeld => ?restr13)
    case hSr13 => exact TellSt.four HE6.out
    clear hK K
    refine wpAnyH_ready (rs := [14]) (by kernel_rfl) (by simp) ?_
    refine AllReadyH.cons rfl (fun K hK => ?_) AllReadyH.nil
    go_simp
    refine (lists_true _ _ q8 q9 c8 c9 L2 _ HQ2.out.1 HQ2.out.2 HL2.out.1 HL2.out.2).mono ?_
    rintro e y6 ⟨rfl, md, rfl⟩
    have HE7 := Lib.hid (HE6.out.keep (below_drewN (Below.refl _ _) md))
    clear HE6 HQ HQ2
    go_wp2_with fail
    refine hK.out _ _ ?hSr14 (fun hHeld => ?restr14)
    case hSr14 => exact TellSt.four HE7.out
    clear hK K
    refine dag_take (i := 15) (v := ?vr15) rfl rfl (by kernel_rfl) (by kernel_rfl) (by kernel_rfl) (fun _ _ _ h => h) (Or.inl ⟨by kernel_rfl, fun w' hSw => ?hyr15⟩) (by assumption) ?restr15
    case hyr15 => ((try dsimp only at hSw); go_simp; (try with_reducible rfl))
    simp only [Act.put]
    refine dag_take (i := 16) (v := ?vr16) rfl rfl (by kernel_rfl) (by kernel_rfl) (by kernel_rfl) (fun _ _ _ h => h) (Or.inl ⟨by kernel_rfl, fun w' hSw => ?hyr16⟩) (by assumption) ?restr16
    case hyr16 => ((try dsimp only at hSw); go_simp; (try with_reducible rfl))
    simp only [Act.put]
    refine dag_take (i := 17) (v := ?vr17) rfl rfl (by kernel_rfl) (by kernel_rfl) (by kernel_rfl) (fun _ _ _ h => h) (Or.inl ⟨by kernel_rfl, fun w' hSw => ?hyr17⟩) (by assumption) ?restr17
    case hyr17 => ((try dsimp only at hSw); go_simp; (try with_reducible rfl))
    simp only [Act.put]
    refine dag_take (i := 19) (v := ?vr19) rfl rfl (by kernel_rfl) (by kernel_rfl) (by kernel_rfl) (fun _ _ _ h => h) (Or.inl ⟨by kernel_rfl, fun w' hSw => ?hyr19⟩) (by assumption) ?restr19
    case hyr19 => ((try dsimp only at hSw); go_simp; (try with_reducible rfl))
    simp only [Act.put]
    refine wpAnyH_ready (rs := [18]) (by kernel_rfl) (by simp) ?_
    refine AllReadyH.cons rfl (fun K hK => ?_) AllReadyH.nil
    go_simp
    refine (HP3.out _ HE7.out.2.2.1).mono ?_
    rintro e y7 ⟨rfl, hb⟩
    have HE8 := Lib.hid (HE7.out.keep hb)
    clear hb HE7
    go_wp2_with fail
    refine hK.out _ _ ?hSr18 (fun hHeld => ?restr18)
    case hSr18 => exact TellSt.four HE8.out
    clear hK K
    refine wpAnyH_ready (rs := [20]) (by kernel_rfl) (by simp) ?_
    refine AllReadyH.cons rfl (fun K hK => ?_) AllReadyH.nil
    go_simp
    refine (HR1.out _ HE8.out.2.2.2.1).mono ?_
    rintro e y8 ⟨hb, q7, c7, M7, rfl, -, -⟩
    have HE9 := Lib.hid (HE8.out.keep hb)
    clear hb HE8
    go_wp2_with fail
    refine hK.out _ _ ?hSr20 (fun hHeld => ?restr20)
    case hSr20 => exact TellSt.four HE9.out
    clear hK K
    refine dag_take (i := 21) (v := ?vr21) rfl rfl (by kernel_rfl) (by kernel_rfl) (by kernel_rfl) (fun _ _ _ h => h) (Or.inl ⟨by kernel_rfl, fun w' hSw => ?hyr21⟩) (by assumption) ?restr21
    case hyr21 => ((try dsimp only at hSw); go_simp; (try with_reducible rfl))
    simp only [Act.put]
    refine dag_take (i := 22) (v := ?vr22) rfl rfl (by kernel_rfl) (by kernel_rfl) (by kernel_rfl) (fun _ _ _ h => h) (Or.inl ⟨by kernel_rfl, fun w' hSw => ?hyr22⟩) (by assumption) ?restr22
    case hyr22 => ((try dsimp only at hSw); go_simp; (try with_reducible rfl))
    simp only [Act.put]
    refine dag_take (i := 23) (v := ?vr23) rfl rfl (by kernel_rfl) (by kernel_rfl) (by kernel_rfl) (fun _ _ _ h => h) (Or.inl ⟨by kernel_rfl, fun w' hSw => ?hyr23⟩) (by assumption) ?restr23
    case hyr23 => ((try dsimp only at hSw); go_simp; (try with_reducible rfl))
    simp only [Act.put]
    refine dag_take (i := 24) (v := ?vr24) rfl rfl (by kernel_rfl) (by kernel_rfl) (by kernel_rfl) (fun _ _ _ h => h) (Or.inl ⟨by kernel_rfl, fun w' hSw => ?hyr24⟩) (by assumption) ?restr24
    case hyr24 => ((try dsimp only at hSw); go_simp; (try with_reducible rfl))
    simp only [Act.put]
    refine dag_take (i := 25) (v := ?vr25) rfl rfl (by kernel_rfl) (by kernel_rfl) (by kernel_rfl) (fun _ _ _ h => h) (Or.inl ⟨by kernel_rfl, fun w' hSw => ?hyr25⟩) (by assumption) ?restr25
    case hyr25 => ((try dsimp only at hSw); go_simp; (try with_reducible rfl))
    simp only [Act.put]
    refine dag_take (i := 26) (v := ?vr26) rfl rfl (by kernel_rfl) (by kernel_rfl) (by kernel_rfl) (fun _ _ _ h => h) (Or.inl ⟨by kernel_rfl, fun w' hSw => ?hyr26⟩) (by assumption) ?restr26
    case hyr26 => ((try dsimp only at hSw); go_simp; (try with_reducible rfl))
    simp only [Act.put]
    refine dag_take (i := 27) (v := ?vr27) rfl rfl (by kernel_rfl) (by kernel_rfl) (by kernel_rfl) (fun _ _ _ h => h) (Or.inl ⟨by kernel_rfl, fun w' hSw => ?hyr27⟩) (by assumption) ?restr27
    case hyr27 => ((try dsimp only at hSw); go_simp; (try with_reducible rfl))
    simp only [Act.put]
    refine dag_take (i := 29) (v := ?vr29) rfl rfl (by kernel_rfl) (by kernel_rfl) (by kernel_rfl) (fun _ _ _ h => h) (Or.inl ⟨by kernel_rfl, fun w' hSw => ?hyr29⟩) (by assumption) ?restr29
    case hyr29 => ((try dsimp only at hSw); go_simp; (try with_reducible rfl))
    simp only [Act.put]
    refine dag_take (i := 30) (v := ?vr30) rfl rfl (by kernel_rfl) (by kernel_rfl) (by kernel_rfl) (fun _ _ _ h => h) (Or.inl ⟨by kernel_rfl, fun w' hSw => ?hyr30⟩) (by assumption) ?restr30
    case hyr30 => ((try dsimp only at hSw); go_simp; (try with_reducible rfl))
    simp only [Act.put]
    refine dag_take (i := 31) (v := ?vr31) rfl rfl (by kernel_rfl) (by kernel_rfl) (by kernel_rfl) (fun _ _ _ h => h) (Or.inl ⟨by kernel_rfl, fun w' hSw => ?hyr31⟩) (by assumption) ?restr31
    case hyr31 => ((try dsimp only at hSw); go_simp; (try with_reducible rfl))
    simp only [Act.put]
    refine wpAnyH_ready (rs := [28]) (by kernel_rfl) (by simp) ?_
    refine AllReadyH.cons rfl (fun K hK => ?_) AllReadyH.nil
    go_simp
    refine (HP4.out _ HE9.out.2.2.1).mono ?_
    rintro e y9 ⟨hb, q8, c8, rfl, hr⟩
    have HE10 := Lib.hid (HE9.out.keep hb)
    have HQ := Lib.hid hr
    clear hr
    clear hb HE9
    go_wp2_with fail
    refine hK.out _ _ ?hSr28 (fun hHeld => ?restr28)
    case hSr28 => exact TellSt.four HE10.out
    clear hK K
    refine wpAnyH_ready (rs := [32]) (by kernel_rfl) (by simp) ?_
    refine AllReadyH.cons rfl (fun K hK => ?_) AllReadyH.nil
    go_simp
    refine (HR4.out _ HE10.out.2.2.2.1).mono ?_
    rintro e y10 ⟨hb, q9, c9, rfl, hr⟩
    have HE11 := Lib.hid (HE10.out.keep hb)
    have HQ2 := Lib.hid (And.intro (HQ.out.over hb (Nat.le_refl _)) hr)
    clear hr
    clear hb HE10
    go_wp2_with fail
    refine hK.out _ _ ?hSr32 (fun hHeld => ?restr32)
    case hSr32 => exact TellSt.four HE11.out
    clear hK K
    refine wpAnyH_ready (rs := [33]) (by kernel_rfl) (by simp) ?_
    refine AllReadyH.cons rfl (fun K hK => ?_) AllReadyH.nil
    go_simp
    refine (ints_true q8 q9 c8 c9 L4 _ HQ2.out.1 HQ2.out.2 HL4.out).mono ?_
    rintro e y11 ⟨rfl, md, rfl⟩
    have HE12 := Lib.hid (HE11.out.keep (below_drewN (Below.refl _ _) md))
    clear HE11 HQ HQ2
    go_wp2_with fail
    refine hK.out _ _ ?hSr33 (fun hHeld => ?restr33)
    case hSr33 => exact TellSt.four HE12.out
    clear hK K
    refine dag_take (i := 34) (v := ?vr34) rfl rfl (by kernel_rfl) (by kernel_rfl) (by kernel_rfl) (fun _ _ _ h => h) (Or.inl ⟨by kernel_rfl, fun w' hSw => ?hyr34⟩) (by assumption) ?restr34
    case hyr34 => ((try dsimp only at hSw); go_simp; (try with_reducible rfl))
    simp only [Act.put]
    refine dag_take (i := 35) (v := ?vr35) rfl rfl (by kernel_rfl) (by kernel_rfl) (by kernel_rfl) (fun _ _ _ h => h) (Or.inl ⟨by kernel_rfl, fun w' hSw => ?hyr35⟩) (by assumption) ?restr35
    case hyr35 => ((try dsimp only at hSw); go_simp; (try with_reducible rfl))
    simp only [Act.put]
    refine dag_take (i := 36) (v := ?vr36) rfl rfl (by kernel_rfl) (by kernel_rfl) (by kernel_rfl) (fun _ _ _ h => h) (Or.inl ⟨by kernel_rfl, fun w' hSw => ?hyr36⟩) (by assumption) ?restr36
    case hyr36 => ((try dsimp only at hSw); go_simp; (try with_reducible rfl))
    simp only [Act.put]
    refine dag_take (i := 38) (v := ?vr38) rfl rfl (by kernel_rfl) (by kernel_rfl) (by kernel_rfl) (fun _ _ _ h => h) (Or.inl ⟨by kernel_rfl, fun w' hSw => ?hyr38⟩) (by assumption) ?restr38
    case hyr38 => ((try dsimp only at hSw); go_simp; (try with_reducible rfl))
    simp only [Act.put]
    refine wpAnyH_ready (rs := [37]) (by kernel_rfl) (by simp) ?_
    refine AllReadyH.cons rfl (fun K hK => ?_) AllReadyH.nil
    go_simp
    refine (HP5.out _ HE12.out.2.2.1).mono ?_
    rintro e y12 ⟨hb, q8, c8, rfl, hr⟩
    have HE13 := Lib.hid (HE12.out.keep hb)
    have HQ := Lib.hid hr
    clear hr
    clear hb HE12
    go_wp2_with fail
    refine hK.out _ _ ?hSr37 (fun hHeld => ?restr37)
    case hSr37 => exact TellSt.four HE13.out
    clear hK K
    refine wpAnyH_ready (rs := [39]) (by kernel_rfl) (by simp) ?_
    refine AllReadyH.cons rfl (fun K hK => ?_) AllReadyH.nil
    go_simp
    refine (HR5.out _ HE13.out.2.2.2.1).mono ?_
    rintro e y13 ⟨hb, q9, c9, rfl, hr⟩
    have HE14 := Lib.hid (HE13.out.keep hb)
    have HQ2 := Lib.hid (And.intro (HQ.out.over hb (Nat.le_refl _)) hr)
    clear hr
    clear hb HE13
    go_wp2_with fail
    refine hK.out _ _ ?hSr39 (fun hHeld => ?restr39)
    case hSr39 => exact TellSt.four HE14.out
    clear hK K
    refine wpAnyH_ready (rs := [40]) (by kernel_rfl) (by simp) ?_
    refine AllReadyH.cons rfl (fun K hK => ?_) AllReadyH.nil
    go_simp
    refine (ints_true q8 q9 c8 c9 L5 _ HQ2.out.1 HQ2.out.2 HL5.out).mono ?_
    rintro e y14 ⟨rfl, md, rfl⟩
    have HE15 := Lib.hid (HE14.out.keep (below_drewN (Below.refl _ _) md))
    clear HE14 HQ HQ2
    go_wp2_with fail
    refine hK.out _ _ ?hSr40 (fun hHeld => ?restr40)
    case hSr40 => exact TellSt.four HE15.out
    clear hK K
    refine dag_take (i := 41) (v := ?vr41) rfl rfl (by kernel_rfl) (by kernel_rfl) (by kernel_rfl) (fun _ _ _ h => h) (Or.inl ⟨by kernel_rfl, fun w' hSw => ?hyr41⟩) (by assumption) ?restr41
    case hyr41 => ((try dsimp only at hSw); go_simp; (try with_reducible rfl))
    simp only [Act.put]
    refine dag_take (i := 42) (v := ?vr42) rfl rfl (by kernel_rfl) (by kernel_rfl) (by kernel_rfl) (fun _ _ _ h => h) (Or.inl ⟨by kernel_rfl, fun w' hSw => ?hyr42⟩) (by assumption) ?restr42
    case hyr42 => ((try dsimp only at hSw); go_simp; (try with_reducible rfl))
    simp only [Act.put]
    refine wpAnyH_ready (rs := [43]) (by kernel_rfl) (by simp) ?_
    refine AllReadyH.cons rfl (fun K hK => ?_) AllReadyH.nil
    go_simp
    refine (awake_any _).mono ?_
    rintro e y15 ⟨rfl, hb⟩
    have HE16 := Lib.hid (HE15.out.keep hb)
    clear hb HE15
    go_wp2_with fail
    refine hK.out _ _ ?hSr43 (fun hHeld => ?restr43)
    case hSr43 => exact TellSt.four HE16.out
    clear hK K
    refine dag_take (i := 44) (v := ?vr44) rfl rfl (by kernel_rfl) (by kernel_rfl) (by kernel_rfl) (fun _ _ _ h => h) (Or.inl ⟨by kernel_rfl, fun w' hSw => ?hyr44⟩) (by assumption) ?restr44
    case hyr44 => ((try dsimp only at hSw); go_simp; (try with_reducible rfl))
    simp only [Act.put]
    refine wpAnyH_ready (rs := [45]) (by kernel_rfl) (by simp) ?_
    refine AllReadyH.cons rfl (fun K hK => ?_) AllReadyH.nil
    go_simp
    refine hK.out _ _ (by assumption) (fun hHeld => ?_)
    clear hK K
    refine wpAnyH_done (by kernel_rfl) ?_ _
    go_wp2
    go_ret
    exact ⟨rfl, HE16.out.1⟩
  · have i1 : (l.length : Int) > 60 := by omega
    go_enter Tryz.func3, Tryz.ntmps3
    go_wp2_with fail
    refine (awake_any _).mono ?_
    rintro e w1 ⟨rfl, hb1⟩
    have HB := Lib.hid (HBX.out.trans (hb1.mono HBX.out.size))
    clear hb1
    go_wp2
    go_ret
    exact ⟨rfl, HB.out⟩
theorem own : ownKnob Tryz.prog.godebug = none := by kernel_rfl
theorem laidOut : laidOutB Tryz.prog = true := by kernel_rfl
set_option maxRecDepth 100000 in
theorem lifted (os : Os) (started : os.Started) (H : Type) (enc : TypeId × Value → H) :
    ReturnsInHanded {} Tryz.checked os 3 .any (Rows.compTellsSpec.pre6 enc Tryz.prog Tryz.f3 Rows.compTellsRow.domain false) (Rows.compTellsSpec.post enc Tryz.prog Tryz.f3 false true false false) := by
  refine returnsInHanded_of_change (C := Tryz.checked) own started (by kernel_rfl) Tryz.func3
    (ChangeSpec.witness6 (enc := enc) (C := Tryz.checked) false ⟨#[], #[.int .u8 0, .slice none 0 0, .agg #[.int .i64 0, .int .i64 0]], []⟩ 8 (by kernel_rfl) (by kernel_rfl) (by kernel_rfl) (by kernel_rfl)) ?_
  intro W base args ds gs before hval0 hW hcnd _
  have hval : ∀ (j : Nat) t v, Tryz.f3.params[j]? = some t → args[j]? = some v → Value.okWide Tryz.prog W .any base t v := hval0
  have hW' := hW
  obtain ⟨p, q, hA0, hV, rfl, hfz, hnd⟩ := hW
  have hA : DataW.TrodAll enc Tryz.prog W 0 (fun _ => true) true Tryz.f3.params.toList args.toList ds p := hA0
  rw [Tryz.params3] at hA hval
  obtain ⟨v0, vs0, d0, ds0, p0, q0, hargs, rfl, rfl, h0, r0⟩ := trodAll_cons hA
  obtain ⟨v1, vs1, d1, ds1, p1, q1, rfl, rfl, rfl, h1, r1⟩ := trodAll_cons r0
  obtain ⟨v2, vs2, d2, ds2, p2, q2, rfl, rfl, rfl, h2, r2⟩ := trodAll_cons r1
  obtain ⟨rfl, rfl, rfl⟩ := trodAll_nil r2
  obtain rfl : args = #[v0, v1, v2] := by cases args; simp_all
  obtain ⟨rfl, rfl⟩ := trodVars_none hV
  obtain ⟨a0, rfl, rfl, rfl, w0⟩ := open_int Tryz.underlying5 (hval 0 5 v0 rfl rfl) h0
  obtain ⟨a1, len1, cap1, rfl⟩ := okWide_slice Tryz.underlying22 (hval 1 22 v1 rfl rfl)
  have k1 := h1
  have lt1 : ∀ x ∈ p1, x.block < W.heap.size := by obtain ⟨m, hm⟩ := k1; exact DataW.trod_lt m _ _ _ hm
  obtain ⟨l1, hlen1, w1⟩ : ∃ l : List Ed, l.length = len1 ∧ EdIn W a1 l ∧ l.length ≤ maxLen := by
    obtain ⟨fuel, hf⟩ := h1
    exact open_edges hf
  subst hlen1
  have k2 := h2
  have lt2 : ∀ x ∈ p2, x.block < W.heap.size := by obtain ⟨m, hm⟩ := k2; exact DataW.trod_lt m _ _ _ hm
  obtain ⟨a2, rfl, w2⟩ := open_pairV (hval 2 23 v2 rfl rfl) h2
  clear hA0 hval0
  refine (walk_list a0 w0 a1 cap1 l1 a2 W w1.1 w1.2 w2).mono fun e W' ⟨he, bel⟩ => ?_
  subst he
  exact ⟨_, rfl, _, _, _, [], _, [], hW', trodAll_mk1 (shut_bool Tryz.underlying4 _), (trodAll_cons_mk (shut_int Tryz.underlying5 w0) (trodAll_cons_mk (Below.trod laidOut (by kernel_rfl) (of_decide_eq_true (by kernel_rfl)) k1 bel lt1) (trodAll_cons_mk (Below.trod laidOut (by kernel_rfl) (of_decide_eq_true (by kernel_rfl)) k2 bel lt2) trodAll_mk0))), rfl, bel.frame _, fun h => by cases h⟩
theorem over : Rows.compTellsRow.holds Tryz.pinned (OpenSpec.ofChange Rows.compTellsSpec) :=
  OpenClaim.holds_of_wide 3 Tryz.f3 rfl rfl rfl rfl rfl rfl rfl ⟨rfl, rfl, rfl, rfl, rfl⟩ rfl rfl rfl rfl rfl (by kernel_rfl) Tryz.func3 (by kernel_rfl)
    (of_decide_eq_true (by kernel_rfl)) (by unfold Func.isWrapper; first | (rw [if_pos (by decide +kernel)]; kernel_rfl) | (rw [if_neg (by decide +kernel)]; exact ⟨rfl, rfl⟩))
    (fun os started H enc _ => lifted os started H enc)
/-- The statement. -/
theorem proved : Rows.CompTellsSaid := over
#print axioms proved
end Go.Proofs.YtmohfmhkhldhnaaGreat.compTells
