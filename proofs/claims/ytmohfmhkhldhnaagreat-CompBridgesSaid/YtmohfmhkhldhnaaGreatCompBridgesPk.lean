/- The bridges of any graph are what the document says; without a bridge there is one class more, without another edge as many as before. Conditions: none: every number of vertices up to 255, every slice of edges (of more than 40 edges, or more than 40 vertices, the law asks only that the program tells classes at all). -/
import Derived.Test.YtmohfmhkhldhnaaGreatPk35
import Derived.Test.YtmohfmhkhldhnaaGreatPk40
import Derived.Test.YtmohfmhkhldhnaaGreatPk37
import Derived.Test.YtmohfmhkhldhnaaGreatPk41
import Derived.Test.YtmohfmhkhldhnaaGreatChecked
import Derived.Test.YtmohfmhkhldhnaaGreatRows
import Derived.ChangeSlices
import Derived.ProofKit
import Derived.OpenShut
import Derived.ChangeOld
import Derived.Below
import Derived.Carry
namespace Go.Proofs.YtmohfmhkhldhnaaGreat.compBridges
open Go.ChangeShapes Go.WideShapes Go.ChangeAt Go.RowKit EdPure NtPure DsuPure CmPure GpPure Ds Cm
@[go_sem] theorem made_g (x y z u : Value) (w : World) : (Instr.field 39 (.agg #[x, y, z, u]) 0).run Tryz.prog w = .ok (.agg #[x, y]) w := by kernel_rfl
@[go_sem] theorem net_l (x y : Value) (w : World) : (Instr.field 37 (.agg #[x, y]) 1).run Tryz.prog w = .ok y w := by kernel_rfl
@[go_sem] theorem merged_l (x y : Value) (w : World) : (Instr.field 49 (.agg #[x, y]) 0).run Tryz.prog w = .ok x w := by kernel_rfl
/-- What stands: the document's graph, the program's, the bridges. -/
def BrSt (w : World) (X : Nat) (q : Option Addr) (c N : Nat) (M : List Ed) (g : Nat) (qb : Option Addr) (bs : List Int) (W : World) : Prop :=
  Below w.heap.size w W ∧ TwoAt X W (.int .i64 (N : Int)) (.slice q M.length c) ∧ NetAt (some ⟨g, 0, none⟩) N M W ∧ ReadsE W.heap.size W q M ∧ ReadsL encZ W.heap.size W qb bs
theorem BrSt.keep {w W W' : World} {X : Nat} {q : Option Addr} {c N : Nat} {M : List Ed} {g : Nat} {qb : Option Addr} {bs : List Int} (h : BrSt w X q c N M g qb bs W) (hb : Below W.heap.size W W') : BrSt w X q c N M g qb bs W' :=
  ⟨h.1.trans (hb.mono h.1.size), h.2.1.on hb h.2.1.lt, h.2.2.1.over hb, h.2.2.2.1.over hb (Nat.le_refl _), h.2.2.2.2.over hb (Nat.le_refl _)⟩
/-- The document's Split of what can be split. -/
theorem splitGood_any (a : Option Addr) (c : Nat) (L : List Ed) (hl : L.length ≤ 100000) (hI : InL L) (hB : splitB L = true) (w : World) (hR : ReadsE w.heap.size w a L) :
    Calls Tryz.prog 21 #[.slice a L.length c] w fun e w' => Below w.heap.size w w' ∧ ∃ q cap, e = .returned (.agg #[.slice q (splitL L).length cap, .bool true]) ∧ ReadsE w'.heap.size w' q (splitL L) := by
  refine (refSplit_any a c L hl hI w hR).mono ?_
  rw [splitO_yes hB]
  rintro e w' ⟨hb, ⟨h, -⟩ | ⟨A, q, cap, h, rfl, hr⟩⟩
  · cases h
  · obtain rfl := Option.some.inj h
    exact ⟨hb, q, cap, rfl, hr⟩
/-- The graph of pieces that are a graph's. -/
theorem newGood_any (N : Nat) (a : Option Addr) (c : Nat) (A L : List Ed) (hI : InL A) (he : errN N A = (0, 0)) (hm : mergeE A = some L) (w : World) (hR : ReadsE w.heap.size w a A) :
    Calls Tryz.prog 6 #[.int .i64 (N : Int), .slice a A.length c] w fun e w' => Below w.heap.size w w' ∧ ∃ g, e = .returned (.tuple #[.pointer (some ⟨g, 0, none⟩), .int .i64 0, .int .i64 0]) ∧ NetAt (some ⟨g, 0, none⟩) N L w' := by
  refine (newNet_any N a c A hI w hR).mono ?_
  rintro e w' ⟨hb, ⟨hne, -⟩ | ⟨-, N', M', g, hN, -, -, -, -, hm', rfl, hn⟩⟩
  · rw [he] at hne; exact absurd rfl hne
  · obtain rfl := Option.some.inj (hm.symm.trans hm')
    obtain rfl : N = N' := by omega
    exact ⟨hb, g, rfl, hn⟩
theorem ints_true (a a' : Option Addr) (c1 c2 : Nat) (l : List Int) (w : World) (h1 : ReadsL encZ w.heap.size w a l) (h2 : ReadsL encZ w.heap.size w a' l) (hl : l.length ≤ 1000000000) :
    Calls Tryz.prog 17 #[.slice a l.length c1, .slice a' l.length c2] w fun e w' => e = .returned (.bool true) ∧ ∃ m, w' = w.drewN m := by
  have h := ints_any a a' c1 c2 l l w h1 h2 hl
  rw [decide_eq_true (rfl : l = l)] at h
  exact h
theorem awake_end {W w1 : World} (HB : Hid (Below W.heap.size W w1)) : Calls Tryz.prog 5 #[] w1 fun e w' => e = .returned (.bool true) ∧ Below W.heap.size W w' :=
  (awake_any w1).mono fun _ _ ⟨h1, h2⟩ => ⟨h1, HB.out.trans (h2.mono HB.out.size)⟩
set_option maxRecDepth 100000 in
set_option maxHeartbeats 4000000 in
theorem walk_list (n : Int) (hn : (Lit.int .u8 n).wf = true) (a : Option Addr) (cap : Nat) (l : List Ed) (W : World) (h1 : EdIn W a l) (_h2 : l.length ≤ maxLen) :
    Calls Tryz.prog 4 #[.int .u8 n, .slice a l.length cap] W fun r w' => r = .returned (.bool true) ∧ Below W.heap.size W w' := by
  obtain ⟨n0, n1⟩ : 0 ≤ n ∧ n ≤ 255 := bounds_u8 hn
  clear hn
  have HB0 : Hid (Below W.heap.size W W) := Lib.hid (Below.refl _ _)
  by_cases hlen : l.length ≤ 40
  case neg =>
    have i1 : (l.length : Int) > 40 := by omega
    go_enter Tryz.func4, Tryz.ntmps4
    go_wp2_with fail
    refine (awake_end HB0).mono ?_
    rintro e w1 ⟨rfl, hb1⟩
    have HB := Lib.hid hb1
    clear hb1
    go_wp2
    go_ret
    exact ⟨rfl, HB.out⟩
  have i1 : ¬ (l.length : Int) > 40 := by omega
  by_cases hn40 : 40 < n
  · go_enter Tryz.func4, Tryz.ntmps4
    go_wp2_with fail
    refine (awake_end HB0).mono ?_
    rintro e w1 ⟨rfl, hb1⟩
    have HB := Lib.hid hb1
    clear hb1
    go_wp2
    go_ret
    exact ⟨rfl, HB.out⟩
  have HL := Lib.hid h1.2
  have HNew := Lib.hid (newU_any n a cap l h1.1 _ HL.out)
  have HRe := Lib.hid (fun w hR => refU_any n a cap l (by omega) h1.1 w hR)
  obtain ⟨e1, e2, he⟩ : ∃ e1 e2, errN n l = (e1, e2) := ⟨_, _, rfl⟩
  have HEQ := Lib.hid he
  unfold NewU Kind at HNew
  unfold RefU at HRe
  rw [he] at HNew HRe
  simp only at HNew HRe
  clear h1 he
  go_enter Tryz.func4, Tryz.ntmps4
  go_wp2_with fail
  refine HNew.out.mono ?_
  rintro e w1 ⟨hb1, p, N, M, rfl, hnt, ⟨hN, hM, hG⟩, ⟨hz, rfl, rfl, rfl⟩ | ⟨hz, ⟨g0, rfl⟩, hnN, hm⟩⟩
  · have t1 : (e1 != 0) = true := by simpa using hz
    have HB1 := Lib.hid hb1
    clear hnt hN hM hG HRe HNew hb1 hz
    go_wp2_with fail
    refine (awake_end HB1).mono ?_
    rintro e w2 ⟨rfl, hb2⟩
    have HB := Lib.hid hb2
    clear hb2
    go_wp2
    go_ret
    exact ⟨rfl, HB.out⟩
  simp only [Prod.mk.injEq] at hz
  obtain ⟨rfl, rfl⟩ := hz
  subst hnN
  have hsm : cntL M ≤ 2 * l.length ∧ M.length ≤ l.length ∧ GoodN N M := by
    have hc : ∀ e ∈ l, chkE (N : Int) e = 0 := by
      have h := congrArg (·.1) HEQ.out
      unfold errN at h
      rw [if_neg (by omega), if_neg (by omega)] at h
      exact chkL_good h
    exact cnt_small (by omega) hc (by omega) hm
  have hM2 : M.length ≤ 40 := by omega
  have HWo := Lib.hid (fun i => wo_again hN hG (by omega : cntL M ≤ 1048576) i)
  have HB1 := Lib.hid hb1
  have HN1 := Lib.hid hnt
  have HL1 := Lib.hid (HL.out.over hb1 (Nat.le_refl _))
  have HMM := Lib.hid hm
  have HG := Lib.hid hG
  clear hb1 hm HNew HL HEQ hG hnt hsm hM
  go_wp2_with fail
  refine (HRe.out _ HL1.out).mono ?_
  rintro e w3 ⟨hb3, x, q, c, M2, rfl, hr3, ⟨hno, -⟩ | ⟨-, hx, hm2⟩⟩
  · exact absurd rfl hno
  obtain rfl : M = M2 := Option.some.inj (HMM.out.symm.trans hm2)
  subst hx
  have HB3 := Lib.hid (HB1.out.trans (hb3.mono HB1.out.size))
  have hbA : Below w3.heap.size w3 (w3.alloc (.cells #[.int .i64 (N : Int), .slice q M.length c] 37)) := (Below.refl _ _).alloc (Nat.le_refl _) _
  have hbB := hb3.trans (hbA.mono hb3.size)
  have HE0 : Hid (BrSt W w3.heap.size q c N M g0 none [] (w3.alloc (.cells #[.int .i64 (N : Int), .slice q M.length c] 37))) :=
    Lib.hid ⟨HB3.out.trans (hbA.mono HB3.out.size), TwoAt.new _ _ _ _, HN1.out.over hbB, hr3.over hbA (Nat.le_refl _), ReadsL.nil _ _ _ _⟩
  clear hb3 hbA hbB hr3 hm2 HB1 HN1 HL1 HRe HMM HB3
  go_wp2_with fail
  generalize w3.alloc (.cells #[.int .i64 (N : Int), .slice q M.length c] 37) = V0 at *
  generalize w3.heap.size = X at *
  have HBr := Lib.hid (compBridges_any (some ⟨g0, 0, none⟩) N M hN HG.out (by omega) V0 HE0.out.2.2.1)
  have HBrR := Lib.hid (fun w h => refBridges_any N hN q c M (by omega) w h)
  have HIn := Lib.hid (fun a a' c1 c2 w h1 h2 => ints_true a a' c1 c2 (zN (brL N M M.length)) w h1 h2 (by rw [zN_len]; exact Nat.le_trans (brL_len N M _) (by omega)))
  have HAt := Lib.hid (fun j (hj : j < M.length) (hb : brB N M j = true) => brL_at (n := N) (M := M) hj hb)
  have HNo := Lib.hid (fun j (hj : j < M.length) (hb : brB N M j = false) h => brL_no (n := N) (M := M) hj hb h)
  have HLen : Hid ((zN (brL N M M.length)).length ≤ 40) := Lib.hid (by rw [zN_len]; exact Nat.le_trans (brL_len N M _) hM2)
  unfold IntsOf at HBr HBrR
  generalize zN (brL N M M.length) = bs at *
  refine HBr.out.mono ?_
  rintro e w4 ⟨hb4, qb, cb, rfl, hrb⟩
  have HE1 : Hid (BrSt W X q c N M g0 qb bs w4) := Lib.hid ⟨(HE0.out.keep hb4).1, (HE0.out.keep hb4).2.1, (HE0.out.keep hb4).2.2.1, (HE0.out.keep hb4).2.2.2.1, hrb⟩
  clear hb4 hrb HBr HE0
  obtain ⟨d0, d1, -, -⟩ := HE1.out.2.1
  have dl := HE1.out.2.1.lt
  go_wp2_with fail
  refine (HBrR.out _ HE1.out.2.2.2.1).mono ?_
  rintro e w5 ⟨hb5, q5, c5, rfl, hr5⟩
  have HE2 := Lib.hid (HE1.out.keep hb5)
  have HR5 := Lib.hid hr5
  clear hb5 hr5 HE1 d0 d1 dl HBrR
  go_wp2_with fail
  refine (HIn.out qb q5 cb c5 _ HE2.out.2.2.2.2 HR5.out).mono ?_
  rintro e w6 ⟨rfl, md, rfl⟩
  have HE3 := Lib.hid (HE2.out.keep (below_drewN (Below.refl _ _) md))
  clear HE2 HIn HR5
  generalize w5.drewN md = V at *
  go_wp2
  go_loopw [10, 11] (fun kv iv wr => ∃ j : Nat, kv = .int .i64 ((brL N M j).length : Int) ∧ iv = .int .i64 j ∧ j ≤ M.length ∧ Hid (BrSt W X q c N M g0 qb bs wr)) (fun _ iv _ => M.length - (intOf iv).toNat)
  case atStart => exact ⟨0, rfl, rfl, Nat.zero_le _, HE3⟩
  case round =>
    obtain ⟨j, rfl, rfl, hjm, HJ⟩ := hrel
    clear HE3
    obtain ⟨d0, d1, -, -⟩ := HJ.out.2.1
    have dl := HJ.out.2.1.lt
    by_cases hj : j < M.length
    · have i2 : (j : Int) < (M.length : Int) := by omega
      obtain ⟨hgL, hlL, hiL, hsB, hiS, hlS, heS, hmS⟩ := HWo.out j
      have hk40 : (brL N M j).length ≤ 40 := by have := brL_len N M j; omega
      have HWi := Lib.hid (refWithout_any N q c M (by omega) j wr HJ.out.2.2.2.1)
      have hct : (listsP N (namH N (woK M j M.length) 0)).length = (listsP N (namH N M 0)).length + if brB N M j = true then 1 else 0 := by
        rw [listsP_len, listsP_len]; exact br_count HG.out hj
      have hc40 : (listsP N (namH N M 0)).length ≤ 4096 := Nat.le_trans (by rw [listsP_len]; exact rootsN_le _ _) hN
      have HSp := Lib.hid (fun a c w h => splitGood_any a c _ (by omega) hiL hsB w h)
      have HNw := Lib.hid (fun a c w h => newGood_any N a c _ _ hiS heS hmS w h)
      have HC1 := Lib.hid (fun g w h => compCount_any (some ⟨g, 0, none⟩) N (woK M j M.length) hN hgL (by omega) w h)
      have HC2 := Lib.hid (fun w h => compCount_any (some ⟨g0, 0, none⟩) N M hN HG.out (by omega) w h)
      have hA := HAt.out j hj
      have hNo := HNo.out j hj
      have HYes : Hid (brB N M j = true → (brL N M (j + 1)).length = (brL N M j).length + 1) := Lib.hid brL_yes
      have HSame : Hid (brB N M j = false → (brL N M (j + 1)).length = (brL N M j).length) := Lib.hid brL_same
      unfold NetOut at HWi
      clear hgL hlL hiL hsB hiS hlS heS hmS
      generalize hkk : (brL N M j).length = k at *
      have HKK := Lib.hid hkk
      clear hkk
      generalize (listsP N (namH N M 0)).length = y at *
      generalize (listsP N (namH N (woK M j M.length) 0)).length = y2 at *
      generalize hLL : woK M j M.length = L at *
      generalize splitL L = A at *
      clear hLL
      go_wp2_with fail
      refine HWi.out.mono ?_
      rintro e w7 ⟨hb7, q7, d7, rfl, hr7⟩
      have HE4 := Lib.hid (HJ.out.keep hb7)
      have HR7 := Lib.hid hr7
      clear hb7 hr7 HJ HWi d0 d1 dl
      go_wp2_with fail
      refine (HSp.out q7 d7 _ HR7.out).mono ?_
      rintro e w8 ⟨hb8, q8, d8, rfl, hr8⟩
      have HE5 := Lib.hid (HE4.out.keep hb8)
      have HR8 := Lib.hid hr8
      clear hb8 hr8 HE4 HR7 HSp
      go_wp2_with fail
      refine (HNw.out q8 d8 _ HR8.out).mono ?_
      rintro e w9 ⟨hb9, g9, rfl, hn9⟩
      have HE6 := Lib.hid (HE5.out.keep hb9)
      have HN9 := Lib.hid hn9
      clear hb9 hn9 HE5 HR8 HNw
      have HRB := Lib.hid HE6.out.2.2.2.2
      have hlen2 := HLen.out
      cases hbr : brB N M j with
      | true =>
        rw [hbr] at hct
        simp only [if_true] at hct
        have HYY := Lib.hid (HYes.out hbr)
        obtain ⟨hlt, hat⟩ := hA hbr
        obtain ⟨bb, off, rfl, hbw, hcell⟩ := HRB.out.at hlt
        rw [hat] at hcell
        unfold encZ at hcell
        have i3 : (k : Int) < (bs.length : Int) := by omega
        have t2 : ((y2 : Int) != (y : Int) + 1) = false := by
          have : (y2 : Int) = (y : Int) + 1 := by omega
          simp [this]
        have y4 : (y : Int) ≤ 4096 := by omega
        have y0 : (0 : Int) ≤ (y : Int) := by omega
        clear hct hA hNo hat HSame HYes hbr hc40
        go_wp2_with fail
        refine (HC1.out g9 _ HN9.out).mono ?_
        rintro e w10 ⟨rfl, hb10⟩
        have HE7 := Lib.hid (HE6.out.keep hb10)
        clear hb10 HE6
        go_wp2_with fail
        refine (HC2.out _ HE7.out.2.2.1).mono ?_
        rintro e w11 ⟨rfl, hb11⟩
        have HE8 := Lib.hid (HE7.out.keep hb11)
        clear hb11 HE7 hcell
        go_wp2
        go_roundw
        case rel => exact ⟨j + 1, by rw [HYY.out]; go_num, by go_num, hj, HE8⟩
        case measure => simp [intOf]; omega
      | false =>
        rw [hbr] at hct
        simp only [Bool.false_eq_true, if_false] at hct
        have HYY := Lib.hid (HSame.out hbr)
        have t2 : ((y2 : Int) != (y : Int) + 0) = false := by
          have : (y2 : Int) = (y : Int) := by omega
          simp [this]
        have t3 : ((y2 : Int) != (y : Int)) = false := by
          have : (y2 : Int) = (y : Int) := by omega
          simp [this]
        have y4 : (y : Int) ≤ 4096 := by omega
        have y0 : (0 : Int) ≤ (y : Int) := by omega
        by_cases hlt : k < bs.length
        · obtain ⟨bb, off, rfl, hbw, hcell⟩ := HRB.out.at hlt
          have hne := hNo hbr hlt
          generalize bs[k] = z at *
          unfold encZ at hcell
          have i3 : (k : Int) < (bs.length : Int) := by omega
          have t4 : (z == (j : Int)) = false := by simpa using hne
          clear hct hA hNo hne HSame HYes hbr hc40
          go_wp2_with fail
          refine (HC1.out g9 _ HN9.out).mono ?_
          rintro e w10 ⟨rfl, hb10⟩
          have HE7 := Lib.hid (HE6.out.keep hb10)
          clear hb10 HE6
          go_wp2_with fail
          refine (HC2.out _ HE7.out.2.2.1).mono ?_
          rintro e w11 ⟨rfl, hb11⟩
          have HE8 := Lib.hid (HE7.out.keep hb11)
          clear hb11 HE7 hcell
          go_wp2
          go_roundw
          case rel => exact ⟨j + 1, by rw [HYY.out], by go_num, hj, HE8⟩
          case measure => simp [intOf]; omega
        · have i3 : ¬ (k : Int) < (bs.length : Int) := by omega
          clear hct hA hNo HSame HYes hbr hc40
          go_wp2_with fail
          refine (HC1.out g9 _ HN9.out).mono ?_
          rintro e w10 ⟨rfl, hb10⟩
          have HE7 := Lib.hid (HE6.out.keep hb10)
          clear hb10 HE6
          go_wp2_with fail
          refine (HC2.out _ HE7.out.2.2.1).mono ?_
          rintro e w11 ⟨rfl, hb11⟩
          have HE8 := Lib.hid (HE7.out.keep hb11)
          clear hb11 HE7
          go_wp2
          go_roundw
          case rel => exact ⟨j + 1, by rw [HYY.out], by go_num, hj, HE8⟩
          case measure => simp [intOf]; omega
    · have i2 : ¬ (j : Int) < (M.length : Int) := by omega
      have HB9 := Lib.hid HJ.out.1
      go_wp2_with fail
      refine (awake_end HB9).mono ?_
      rintro e w7 ⟨rfl, hb7⟩
      have HB := Lib.hid hb7
      clear hb7
      go_wp2
      go_ret
      exact ⟨rfl, HB.out⟩
theorem own : ownKnob Tryz.prog.godebug = none := by kernel_rfl
theorem laidOut : laidOutB Tryz.prog = true := by kernel_rfl
set_option maxRecDepth 100000 in
theorem lifted (os : Os) (started : os.Started) (H : Type) (enc : TypeId × Value → H) :
    ReturnsInHanded {} Tryz.checked os 4 .any (Rows.compBridgesSpec.pre6 enc Tryz.prog Tryz.f4 Rows.compBridgesRow.domain false) (Rows.compBridgesSpec.post enc Tryz.prog Tryz.f4 false true false false) := by
  refine returnsInHanded_of_change (C := Tryz.checked) own started (by kernel_rfl) Tryz.func4
    (ChangeSpec.witness6 (enc := enc) (C := Tryz.checked) false ⟨#[], #[.int .u8 0, .slice none 0 0], []⟩ 8 (by kernel_rfl) (by kernel_rfl) (by kernel_rfl) (by kernel_rfl)) ?_
  intro W base args ds gs before hval0 hW hcnd _
  have hval : ∀ (j : Nat) t v, Tryz.f4.params[j]? = some t → args[j]? = some v → Value.okWide Tryz.prog W .any base t v := hval0
  have hW' := hW
  obtain ⟨p, q, hA0, hV, rfl, hfz, hnd⟩ := hW
  have hA : DataW.TrodAll enc Tryz.prog W 0 (fun _ => true) true Tryz.f4.params.toList args.toList ds p := hA0
  rw [Tryz.params4] at hA hval
  obtain ⟨v0, vs0, d0, ds0, p0, q0, hargs, rfl, rfl, h0, r0⟩ := trodAll_cons hA
  obtain ⟨v1, vs1, d1, ds1, p1, q1, rfl, rfl, rfl, h1, r1⟩ := trodAll_cons r0
  obtain ⟨rfl, rfl, rfl⟩ := trodAll_nil r1
  obtain rfl : args = #[v0, v1] := by cases args; simp_all
  obtain ⟨rfl, rfl⟩ := trodVars_none hV
  obtain ⟨a0, rfl, rfl, rfl, w0⟩ := open_int Tryz.underlying5 (hval 0 5 v0 rfl rfl) h0
  obtain ⟨a1, len1, cap1, rfl⟩ := okWide_slice Tryz.underlying22 (hval 1 22 v1 rfl rfl)
  have k1 := h1
  have lt1 : ∀ x ∈ p1, x.block < W.heap.size := by obtain ⟨m, hm⟩ := k1; exact DataW.trod_lt m _ _ _ hm
  obtain ⟨l1, hlen1, w1⟩ : ∃ l : List Ed, l.length = len1 ∧ EdIn W a1 l ∧ l.length ≤ maxLen := by
    obtain ⟨fuel, hf⟩ := h1
    exact open_edges hf
  subst hlen1
  clear hA0 hval0
  refine (walk_list a0 w0 a1 cap1 l1 W w1.1 w1.2).mono fun e W' ⟨he, bel⟩ => ?_
  subst he
  exact ⟨_, rfl, _, _, _, [], _, [], hW', trodAll_mk1 (shut_bool Tryz.underlying4 _), (trodAll_cons_mk (shut_int Tryz.underlying5 w0) (trodAll_cons_mk (Below.trod laidOut (by kernel_rfl) (of_decide_eq_true (by kernel_rfl)) k1 bel lt1) trodAll_mk0)), rfl, bel.frame _, fun h => by cases h⟩
theorem over : Rows.compBridgesRow.holds Tryz.pinned (OpenSpec.ofChange Rows.compBridgesSpec) :=
  OpenClaim.holds_of_wide 4 Tryz.f4 rfl rfl rfl rfl rfl rfl rfl ⟨rfl, rfl, rfl, rfl, rfl⟩ rfl rfl rfl rfl rfl (by kernel_rfl) Tryz.func4 (by kernel_rfl)
    (of_decide_eq_true (by kernel_rfl)) (by unfold Func.isWrapper; first | (rw [if_pos (by decide +kernel)]; kernel_rfl) | (rw [if_neg (by decide +kernel)]; exact ⟨rfl, rfl⟩))
    (fun os started H enc _ => lifted os started H enc)
/-- The statement. -/
theorem proved : Rows.CompBridgesSaid := over
#print axioms proved
end Go.Proofs.YtmohfmhkhldhnaaGreat.compBridges
