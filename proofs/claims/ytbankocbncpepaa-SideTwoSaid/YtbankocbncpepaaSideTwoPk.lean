/- A side and its other side weigh the same; what two sides share, and what both have, weigh together no more than both. Conditions: none: every number of vertices, every slice of edges, every two sets of vertices up to 16 (of more than 60 edges or 16 vertices the law asks only that the program weighs cuts at all). -/
import Derived.Test.YtbankocbncpepaaPk26
import Derived.Test.YtbankocbncpepaaPk31
import Derived.Test.YtbankocbncpepaaPk30
import Derived.Test.YtbankocbncpepaaChecked
import Derived.Test.YtbankocbncpepaaRows
import Derived.ChangeSlices
import Derived.ProofKit
import Derived.OpenShut
import Derived.ChangeOld
import Derived.Below
import Derived.Carry
import Derived.BigQuiet
namespace Go.Proofs.Ytbankocbncpepaa.sideTwo
open Go.ChangeShapes Go.WideShapes Go.ChangeAt Go.RowKit EdPure NtPure CutPure SdPure Cm Sd
/-- What stands: the two sets, the program's graph. -/
def TwoSt (w : World) (X : Nat) (m0 m1 : Int) (g N : Nat) (M : List Ed) (W : World) : Prop :=
  Below w.heap.size w W ∧ TwoAt X W (.int .u16 m0) (.int .u16 m1) ∧ NetAt (some ⟨g, 0, none⟩) N M W
theorem TwoSt.keep {w W W' : World} {X : Nat} {m0 m1 : Int} {g N : Nat} {M : List Ed} (h : TwoSt w X m0 m1 g N M W) (hb : Below W.heap.size W W') : TwoSt w X m0 m1 g N M W' :=
  ⟨h.1.trans (hb.mono h.1.size), h.2.1.on hb h.2.1.lt, h.2.2.over hb⟩
/-- Numbers that were told. -/
def Told (q : Option Addr) (L : List Int) (W : World) : Prop := ReadsL encZ W.heap.size W q L
theorem Told.keep {W W' : World} {q : Option Addr} {L : List Int} (h : Told q L W) (hb : Below W.heap.size W W') : Told q L W' := h.over hb (Nat.le_refl _)
set_option maxRecDepth 100000 in
set_option maxHeartbeats 4000000 in
theorem walk_list (n : Int) (hn : (Lit.int .u8 n).wf = true) (a : Option Addr) (cap : Nat) (l : List Ed) (x : Int × Int) (W : World) (h1 : EdIn W a l) (_h2 : l.length ≤ maxLen) (hx : (0 ≤ x.1 ∧ x.1 ≤ 65535) ∧ 0 ≤ x.2 ∧ x.2 ≤ 65535) :
    Calls Try.prog 5 #[.int .u8 n, .slice a l.length cap, .agg #[.int .u16 x.1, .int .u16 x.2]] W fun r w' => r = .returned (.bool true) ∧ Below W.heap.size W w' := by
  obtain ⟨m0, m1⟩ := x
  simp only at hx ⊢
  obtain ⟨⟨u0, u1⟩, v0, v1⟩ := hx
  obtain ⟨n0, n1⟩ : 0 ≤ n ∧ n ≤ 255 := bounds_u8 hn
  obtain ⟨ti, hi1, hi2, hi3, hi4⟩ := info_int
  have hbX : Below W.heap.size W (W.alloc (.cells #[.int .u16 m0, .int .u16 m1] 55)) := (Below.refl _ _).alloc (Nat.le_refl _) _
  have HBX := Lib.hid hbX
  have HTX := Lib.hid (TwoAt.new W (.int .u16 m0) (.int .u16 m1) 55)
  clear hn
  by_cases hlen : l.length ≤ 60
  · have i1 : ¬ (l.length : Int) > 60 := by omega
    by_cases hN16 : n ≤ 16
    · have i2 : ¬ n > 16 := by omega
      have HL := Lib.hid (h1.2.over hbX (Nat.le_refl _))
      have HNew := Lib.hid (newU_any n a cap l h1.1 _ HL.out)
      obtain ⟨e1, e2, he⟩ : ∃ e1 e2, errN n l = (e1, e2) := ⟨_, _, rfl⟩
      unfold NewU Kind at HNew
      rw [he] at HNew
      simp only at HNew
      clear h1 he hbX HL
      go_enter Try.func5, Try.ntmps5
      go_upto_region 1 with fail
      generalize W.alloc (.cells #[.int .u16 m0, .int .u16 m1] 55) = W0 at *
      go_wp2_with fail
      refine HNew.out.mono ?_
      rintro e w1 ⟨hb1, p, N, M, rfl, hnt, ⟨hN, hM, hG⟩, ⟨hz, rfl, rfl, rfl⟩ | ⟨hz, ⟨g0, rfl⟩, hnN, hm⟩⟩
      · have t1 : (e1 != 0) = true := by simpa using hz
        have HB1 := Lib.hid (HBX.out.trans (hb1.mono HBX.out.size))
        clear hnt hN hM hG HNew hb1 hz HBX HTX
        go_wp2_with fail
        refine (awake_any _).mono ?_
        rintro e w2 ⟨rfl, hb⟩
        have HB2 := Lib.hid (HB1.out.trans (hb.mono HB1.out.size))
        clear hb
        go_wp2
        go_ret
        exact ⟨rfl, HB2.out⟩
      simp only [Prod.mk.injEq] at hz
      obtain ⟨rfl, rfl⟩ := hz
      subst hnN
      have hN2 : N ≤ 16 := by omega
      have HM : Hid (M.length ≤ 1048576) := Lib.hid hM
      have HT1 : Hid (TwoSt W W.heap.size m0 m1 g0 N M w1) := Lib.hid ⟨HBX.out.trans (hb1.mono HBX.out.size), HTX.out.on hb1 HTX.out.lt, hnt⟩
      have HGG := Lib.hid hG
      have HNN := Lib.hid hN
      clear hb1 HNew hG hnt hN hM hm HBX HTX
      go_wp2
      go_loopw [10, 11, 12, 13, 14] (fun u10 u11 u12 u13 i wr => ∃ (k : Nat) (v1 v2 v3 v4 : Value) (la lb ls lo : List Int), v1 = u10 ∧ v2 = u11 ∧ v3 = u12 ∧ v4 = u13 ∧ i = .int .i64 k ∧ k ≤ N ∧ Hid (Four k la lb ls lo) ∧ Hid (GathFour w1 v1 v2 v3 v4 la lb ls lo wr)) (fun _ _ _ _ i _ => N - (intOf i).toNat)
      case atStart => exact ⟨0, _, _, _, _, [], [], [], [], rfl, rfl, rfl, rfl, rfl, Nat.zero_le _, Lib.hid Four.nil, Lib.hid (GathFour.start _)⟩
      case round =>
        obtain ⟨k, v1, v2, v3, v4, la, lb, ls, lo, rfl, rfl, rfl, rfl, rfl, hk, HF, HK⟩ := hrel
        have HT := Lib.hid (HT1.out.keep HK.out.1)
        by_cases hlt : k < N
        · have i3 : (k : Int) < (N : Int) := by omega
          obtain ⟨d0, d1, -, -⟩ := HT.out.2.1
          have dl := HT.out.2.1.lt
          obtain ⟨f1, f2, f3, f4⟩ := HF.out.2.1
          go_wp2_with fail
          go_quiet (fail)
          generalize (bits BinOp.and IntKind.u16 (m0 / 2 ^ k) 1 == 1) = p
          generalize (bits BinOp.and IntKind.u16 (m1 / 2 ^ k) 1 == 1) = q
          have HK2 := Lib.hid (HK.out.on (below_drewN (Below.refl _ _) nq))
          clear HK d0 d1 dl HT
          have HK := HK2
          clear HK2
          have HF2 := Lib.hid (HF.out.step p q)
          clear HF
          generalize wr.drewN nq = V at *
          cases p <;> cases q
          all_goals
            go_wp2_with (first
            | (at_builtin; refine wpList_append_own_at _ rfl _ _ 23 rfl w1.heap.size 3 ti (.int .i64 0) 1 8 Try.underlying23 hi1 hi2 hi3 hi4 rfl (by decide) v1 la.length (la.map encZ) rfl (HK.out.2.1.1.alloc _) ⟨_, 0, none⟩ 1 1 [.int .i64 (k : Int)] rfl rfl (one_newsAt rfl) (by intro u hu; simp at hu; subst hu; rfl) (by unfold maxLen; omega) (by omega) (by have := HK.out.1.size; simp; omega) ?_; intro v' w6 hown6 hg6 _ hat6; have HK' := Lib.hid (HK.out.step1 (x := (k : Int)) hown6 hg6 hat6); clear hown6 hg6 hat6 HK; have HK := HK'; clear HK')
            | (at_builtin; refine wpList_append_own_at _ rfl _ _ 23 rfl w1.heap.size 3 ti (.int .i64 0) 1 8 Try.underlying23 hi1 hi2 hi3 hi4 rfl (by decide) v2 lb.length (lb.map encZ) rfl (HK.out.2.1.2.1.alloc _) ⟨_, 0, none⟩ 1 1 [.int .i64 (k : Int)] rfl rfl (one_newsAt rfl) (by intro u hu; simp at hu; subst hu; rfl) (by unfold maxLen; omega) (by omega) (by have := HK.out.1.size; simp; omega) ?_; intro v' w6 hown6 hg6 _ hat6; have HK' := Lib.hid (HK.out.step2 (x := (k : Int)) hown6 hg6 hat6); clear hown6 hg6 hat6 HK; have HK := HK'; clear HK')
            | (at_builtin; refine wpList_append_own_at _ rfl _ _ 23 rfl w1.heap.size 3 ti (.int .i64 0) 1 8 Try.underlying23 hi1 hi2 hi3 hi4 rfl (by decide) v3 ls.length (ls.map encZ) rfl (HK.out.2.1.2.2.1.alloc _) ⟨_, 0, none⟩ 1 1 [.int .i64 (k : Int)] rfl rfl (one_newsAt rfl) (by intro u hu; simp at hu; subst hu; rfl) (by unfold maxLen; omega) (by omega) (by have := HK.out.1.size; simp; omega) ?_; intro v' w6 hown6 hg6 _ hat6; have HK' := Lib.hid (HK.out.step3 (x := (k : Int)) hown6 hg6 hat6); clear hown6 hg6 hat6 HK; have HK := HK'; clear HK')
            | (at_builtin; refine wpList_append_own_at _ rfl _ _ 23 rfl w1.heap.size 3 ti (.int .i64 0) 1 8 Try.underlying23 hi1 hi2 hi3 hi4 rfl (by decide) v4 lo.length (lo.map encZ) rfl (HK.out.2.1.2.2.2.alloc _) ⟨_, 0, none⟩ 1 1 [.int .i64 (k : Int)] rfl rfl (one_newsAt rfl) (by intro u hu; simp at hu; subst hu; rfl) (by unfold maxLen; omega) (by omega) (by have := HK.out.1.size; simp; omega) ?_; intro v' w6 hown6 hg6 _ hat6; have HK' := Lib.hid (HK.out.step4 (x := (k : Int)) hown6 hg6 hat6); clear hown6 hg6 hat6 HK; have HK := HK'; clear HK'))
            go_roundw
            case rel => exact ⟨k + 1, _, _, _, _, _, _, _, _, rfl, rfl, rfl, rfl, by go_num, hlt, HF2, HK⟩
            case measure => simp [intOf]; omega
        · obtain rfl : k = N := by omega
          obtain ⟨f1, f2, f3, f4⟩ := HF.out.2.1
          obtain ⟨qa, ca, rfl, ra, -⟩ := owns_readsL rfl HK.out.2.1.1
          obtain ⟨qb, cb, rfl, rb, -⟩ := owns_readsL rfl HK.out.2.1.2.1
          obtain ⟨qs, cs, rfl, rs, -⟩ := owns_readsL rfl HK.out.2.1.2.2.1
          obtain ⟨qo, co, rfl, ro, -⟩ := owns_readsL rfl HK.out.2.1.2.2.2
          have HT0 := HT
          have HA0 : Hid (Told qa la wr) := Lib.hid ra
          have HB0 : Hid (Told qb lb wr) := Lib.hid rb
          have HS0 : Hid (Told qs ls wr) := Lib.hid rs
          have HO0 : Hid (Told qo lo wr) := Lib.hid ro
          have HP := Lib.hid (fun b d l hl w h hS => sideWeight_any (some ⟨g0, 0, none⟩) k M HNN.out HGG.out HM.out b d l hl w h hS)
          have HPa := Lib.hid (fun w h hS => HP.out qa ca la (by omega) w h hS)
          have HPb := Lib.hid (fun w h hS => HP.out qb cb lb (by omega) w h hS)
          have HPs := Lib.hid (fun w h hS => HP.out qs cs ls (by omega) w h hS)
          have HPo := Lib.hid (fun w h hS => HP.out qo co lo (by omega) w h hS)
          have HRo := Lib.hid (fun w hS => Sd.refOther_any k (by omega) qa ca la (by omega) w hS)
          unfold IntsOf at HRo
          have HPr := Lib.hid (fun q c w h hS => HP.out q c (othL la k) (Nat.le_trans (oth_len la k) (by omega)) w h hS)
          rw [HF.out.1.other, oth_cut HGG.out la] at HPr
          have hTwo := HF.out.two (n := (k : Int)) HGG.out.non
          have r1 := w_rng HGG.out.non HGG.out.2.2 (k : Int) la
          have r2 := w_rng HGG.out.non HGG.out.2.2 (k : Int) lb
          have r3 := w_rng HGG.out.non HGG.out.2.2 (k : Int) ls
          have r4 := w_rng HGG.out.non HGG.out.2.2 (k : Int) lo
          generalize (if chkS (k : Int) la = 0 then cutW M (inS la) else 0) = A at *
          generalize (if chkS (k : Int) lb = 0 then cutW M (inS lb) else 0) = B at *
          generalize (if chkS (k : Int) ls = 0 then cutW M (inS ls) else 0) = Y at *
          generalize (if chkS (k : Int) lo = 0 then cutW M (inS lo) else 0) = Z at *
          generalize chkS (k : Int) la = K1 at *
          generalize chkS (k : Int) lb = K2 at *
          generalize chkS (k : Int) ls = K3 at *
          generalize chkS (k : Int) lo = K4 at *
          have HTwo := Lib.hid hTwo
          obtain ⟨a0, a1⟩ := r1
          obtain ⟨b0, b1⟩ := r2
          obtain ⟨y0, y1⟩ := r3
          obtain ⟨z0, z1⟩ := r4
          have bK : (K1 != K1) = false := by simp
          have bA : (A != A) = false := by simp
          clear ra rb rs ro HK HF HP HT hTwo
          go_wp2_with fail
          refine (HPa.out _ HT0.out.2.2 HA0.out).mono ?_
          rintro e w1 ⟨rfl, hb⟩
          have HT1 := Lib.hid (HT0.out.keep hb)
          have HA1 := Lib.hid (HA0.out.keep hb)
          have HB1 := Lib.hid (HB0.out.keep hb)
          have HS1 := Lib.hid (HS0.out.keep hb)
          have HO1 := Lib.hid (HO0.out.keep hb)
          clear hb HT0 HA0 HB0 HS0 HO0
          go_wp2_with fail
          refine (HPb.out _ HT1.out.2.2 HB1.out).mono ?_
          rintro e w2 ⟨rfl, hb⟩
          have HT2 := Lib.hid (HT1.out.keep hb)
          have HA2 := Lib.hid (HA1.out.keep hb)
          have HS2 := Lib.hid (HS1.out.keep hb)
          have HO2 := Lib.hid (HO1.out.keep hb)
          clear HB1
          clear hb HT1 HA1 HS1 HO1
          go_wp2_with fail
          refine (HPs.out _ HT2.out.2.2 HS2.out).mono ?_
          rintro e w3 ⟨rfl, hb⟩
          have HT3 := Lib.hid (HT2.out.keep hb)
          have HA3 := Lib.hid (HA2.out.keep hb)
          have HO3 := Lib.hid (HO2.out.keep hb)
          clear HS2
          clear hb HT2 HA2 HO2
          go_wp2_with fail
          refine (HPo.out _ HT3.out.2.2 HO3.out).mono ?_
          rintro e w4 ⟨rfl, hb⟩
          have HT4 := Lib.hid (HT3.out.keep hb)
          have HA4 := Lib.hid (HA3.out.keep hb)
          clear HO3
          clear hb HT3 HA3
          go_wp2_with fail
          refine (HRo.out _ HA4.out).mono ?_
          rintro e w5 ⟨hb, q5, c5, rfl, hr⟩
          have HT5 := Lib.hid (HT4.out.keep hb)
          have HR5 : Hid (Told q5 (othL la k) w5) := Lib.hid hr
          clear hr HA4
          clear hb HT4
          go_wp2_with fail
          refine (HPr.out q5 c5 _ HT5.out.2.2 HR5.out).mono ?_
          rintro e w6 ⟨rfl, hb⟩
          have HT6 := Lib.hid (HT5.out.keep hb)
          clear HR5
          clear hb HT5
          by_cases hk1 : K1 = 0
          · have t1 : (K1 != 0) = false := by simp [hk1]
            by_cases hk2 : K2 = 0
            · have t2 : (K2 != 0) = false := by simp [hk2]
              have t3 : Y + Z ≤ A + B := HTwo.out hk1 hk2
              clear hk1 hk2
              go_wp2_with fail
              refine (awake_any _).mono ?_
              rintro e w7 ⟨rfl, hb⟩
              have HT7 := Lib.hid (HT6.out.keep hb)
              clear hb HT6
              go_wp2
              go_ret
              exact ⟨rfl, HT7.out.1⟩
            · have t2 : (K2 != 0) = true := by simpa using hk2
              clear hk1 hk2
              go_wp2_with fail
              refine (awake_any _).mono ?_
              rintro e w7 ⟨rfl, hb⟩
              have HT7 := Lib.hid (HT6.out.keep hb)
              clear hb HT6
              go_wp2
              go_ret
              exact ⟨rfl, HT7.out.1⟩
          · have t1 : (K1 != 0) = true := by simpa using hk1
            clear hk1
            go_wp2_with fail
            refine (awake_any _).mono ?_
            rintro e w7 ⟨rfl, hb⟩
            have HT7 := Lib.hid (HT6.out.keep hb)
            clear hb HT6
            go_wp2
            go_ret
            exact ⟨rfl, HT7.out.1⟩
    · have i2 : n > 16 := by omega
      go_enter Try.func5, Try.ntmps5
      go_wp2_with fail
      refine (awake_any _).mono ?_
      rintro e w1 ⟨rfl, hb1⟩
      have HB := Lib.hid (HBX.out.trans (hb1.mono HBX.out.size))
      clear hb1
      go_wp2
      go_ret
      exact ⟨rfl, HB.out⟩
  · have i1 : (l.length : Int) > 60 := by omega
    go_enter Try.func5, Try.ntmps5
    go_wp2_with fail
    refine (awake_any _).mono ?_
    rintro e w1 ⟨rfl, hb1⟩
    have HB := Lib.hid (HBX.out.trans (hb1.mono HBX.out.size))
    clear hb1
    go_wp2
    go_ret
    exact ⟨rfl, HB.out⟩
theorem own : ownKnob Try.prog.godebug = none := by kernel_rfl
theorem laidOut : laidOutB Try.prog = true := by kernel_rfl
set_option maxRecDepth 100000 in
theorem lifted (os : Os) (started : os.Started) (H : Type) (enc : TypeId × Value → H) :
    ReturnsInHanded {} Try.checked os 5 .any (Rows.sideTwoSpec.pre6 enc Try.prog Try.f5 Rows.sideTwoRow.domain false) (Rows.sideTwoSpec.post enc Try.prog Try.f5 false true false false) := by
  refine returnsInHanded_of_change (C := Try.checked) own started (by kernel_rfl) Try.func5
    (ChangeSpec.witness6 (enc := enc) (C := Try.checked) false ⟨#[], #[.int .u8 0, .slice none 0 0, .agg #[.int .u16 0, .int .u16 0]], []⟩ 8 (by kernel_rfl) (by kernel_rfl) (by kernel_rfl) (by kernel_rfl)) ?_
  intro W base args ds gs before hval0 hW hcnd _
  have hval : ∀ (j : Nat) t v, Try.f5.params[j]? = some t → args[j]? = some v → Value.okWide Try.prog W .any base t v := hval0
  have hW' := hW
  obtain ⟨p, q, hA0, hV, rfl, hfz, hnd⟩ := hW
  have hA : DataW.TrodAll enc Try.prog W 0 (fun _ => true) true Try.f5.params.toList args.toList ds p := hA0
  rw [Try.params5] at hA hval
  obtain ⟨v0, vs0, d0, ds0, p0, q0, hargs, rfl, rfl, h0, r0⟩ := trodAll_cons hA
  obtain ⟨v1, vs1, d1, ds1, p1, q1, rfl, rfl, rfl, h1, r1⟩ := trodAll_cons r0
  obtain ⟨v2, vs2, d2, ds2, p2, q2, rfl, rfl, rfl, h2, r2⟩ := trodAll_cons r1
  obtain ⟨rfl, rfl, rfl⟩ := trodAll_nil r2
  obtain rfl : args = #[v0, v1, v2] := by cases args; simp_all
  obtain ⟨rfl, rfl⟩ := trodVars_none hV
  obtain ⟨a0, rfl, rfl, rfl, w0⟩ := open_int Try.underlying5 (hval 0 5 v0 rfl rfl) h0
  obtain ⟨a1, len1, cap1, rfl⟩ := okWide_slice Try.underlying22 (hval 1 22 v1 rfl rfl)
  have k1 := h1
  have lt1 : ∀ x ∈ p1, x.block < W.heap.size := by obtain ⟨m, hm⟩ := k1; exact DataW.trod_lt m _ _ _ hm
  obtain ⟨l1, hlen1, w1⟩ : ∃ l : List Ed, l.length = len1 ∧ EdIn W a1 l ∧ l.length ≤ maxLen := by
    obtain ⟨fuel, hf⟩ := h1
    exact open_edges hf
  subst hlen1
  have k2 := h2
  have lt2 : ∀ x ∈ p2, x.block < W.heap.size := by obtain ⟨m, hm⟩ := k2; exact DataW.trod_lt m _ _ _ hm
  obtain ⟨a2, rfl, w2⟩ := open_pairU (hval 2 55 v2 rfl rfl) h2
  clear hA0 hval0
  refine (walk_list a0 w0 a1 cap1 l1 a2 W w1.1 w1.2 w2).mono fun e W' ⟨he, bel⟩ => ?_
  subst he
  exact ⟨_, rfl, _, _, _, [], _, [], hW', trodAll_mk1 (shut_bool Try.underlying4 _), (trodAll_cons_mk (shut_int Try.underlying5 w0) (trodAll_cons_mk (Below.trod laidOut (by kernel_rfl) (of_decide_eq_true (by kernel_rfl)) k1 bel lt1) (trodAll_cons_mk (Below.trod laidOut (by kernel_rfl) (of_decide_eq_true (by kernel_rfl)) k2 bel lt2) trodAll_mk0))), rfl, bel.frame _, fun h => by cases h⟩
theorem over : Rows.sideTwoRow.holds Try.pinned (OpenSpec.ofChange Rows.sideTwoSpec) :=
  OpenClaim.holds_of_wide 5 Try.f5 rfl rfl rfl rfl rfl rfl rfl ⟨rfl, rfl, rfl, rfl, rfl⟩ rfl rfl rfl rfl rfl (by kernel_rfl) Try.func5 (by kernel_rfl)
    (of_decide_eq_true (by kernel_rfl)) (by unfold Func.isWrapper; first | (rw [if_pos (by decide +kernel)]; kernel_rfl) | (rw [if_neg (by decide +kernel)]; exact ⟨rfl, rfl⟩))
    (fun os started H enc _ => lifted os started H enc)
/-- The statement. -/
theorem proved : Rows.SideTwoSaid := over
#print axioms proved
end Go.Proofs.Ytbankocbncpepaa.sideTwo
