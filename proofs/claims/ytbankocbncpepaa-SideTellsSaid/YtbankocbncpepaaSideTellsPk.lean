/- Whether any numbers are a side of any graph, what that weighs, what crosses, and its normal form, is what the document says; of no graph there is none. Conditions: none: every number of vertices up to 255, every slice of edges, every slice of numbers (of more than 60 edges or 300 numbers the law asks only that the program weighs cuts at all). -/
import Derived.Test.YtbankocbncpepaaPk26
import Derived.Test.YtbankocbncpepaaPk30
import Derived.Test.YtbankocbncpepaaChecked
import Derived.Test.YtbankocbncpepaaRows
import Derived.ChangeSlices
import Derived.ProofKit
import Derived.OpenShut
import Derived.ChangeOld
import Derived.Below
import Derived.Carry
namespace Go.Proofs.Ytbankocbncpepaa.sideTells
open Go.ChangeShapes Go.WideShapes Go.ChangeAt Go.RowKit EdPure NtPure CutPure SdPure Cm Sd
@[go_sem] theorem made_g (x y z u : Value) (w : World) : (Instr.field 38 (.agg #[x, y, z, u]) 0).run Try.prog w = .ok (.agg #[x, y]) w := by kernel_rfl
/-- What came in stands: the edges, the numbers. -/
def InSt (w : World) (a : Option Addr) (l : List Ed) (b : Option Addr) (S : List Int) (W : World) : Prop := Below w.heap.size w W ∧ ReadsE W.heap.size W a l ∧ ReadsL encZ W.heap.size W b S
theorem InSt.keep {w W W' : World} {a : Option Addr} {l : List Ed} {b : Option Addr} {S : List Int} (h : InSt w a l b S W) (hb : Below W.heap.size W W') : InSt w a l b S W' :=
  ⟨h.1.trans (hb.mono h.1.size), h.2.1.over hb (Nat.le_refl _), h.2.2.over hb (Nat.le_refl _)⟩
/-- What stands: the document's graph, the program's, the numbers. -/
def TellSt (w : World) (X : Nat) (q : Option Addr) (c N : Nat) (M : List Ed) (g : Nat) (b : Option Addr) (S : List Int) (W : World) : Prop :=
  Below w.heap.size w W ∧ TwoAt X W (.int .i64 (N : Int)) (.slice q M.length c) ∧ NetAt (some ⟨g, 0, none⟩) N M W ∧ ReadsE W.heap.size W q M ∧ ReadsL encZ W.heap.size W b S
theorem TellSt.keep {w W W' : World} {X : Nat} {q : Option Addr} {c N : Nat} {M : List Ed} {g : Nat} {b : Option Addr} {S : List Int} (h : TellSt w X q c N M g b S W) (hb : Below W.heap.size W W') : TellSt w X q c N M g b S W' :=
  ⟨h.1.trans (hb.mono h.1.size), h.2.1.on hb h.2.1.lt, h.2.2.1.over hb, h.2.2.2.1.over hb (Nat.le_refl _), h.2.2.2.2.over hb (Nat.le_refl _)⟩
/-- Numbers that were told, and how many. -/
def Told (q : Option Addr) (L : List Int) (W : World) : Prop := ReadsL encZ W.heap.size W q L
theorem Told.keep {W W' : World} {q : Option Addr} {L : List Int} (h : Told q L W) (hb : Below W.heap.size W W') : Told q L W' := h.over hb (Nat.le_refl _)
/-- The cut that was told, in the law's own variable. -/
def CutAt (Y : Nat) (x : Int) (q : Option Addr) (c : Nat) (L : List Int) (W : World) : Prop := TwoAt Y W (.int .i64 x) (.slice q L.length c) ∧ ReadsL encZ W.heap.size W q L
theorem CutAt.keep {W W' : World} {Y : Nat} {x : Int} {q : Option Addr} {c : Nat} {L : List Int} (h : CutAt Y x q c L W) (hb : Below W.heap.size W W') : CutAt Y x q c L W' := ⟨h.1.on hb h.1.lt, h.2.over hb (Nat.le_refl _)⟩
theorem ints_true (a a' : Option Addr) (c1 c2 : Nat) (l : List Int) (w : World) (h1 : ReadsL encZ w.heap.size w a l) (h2 : ReadsL encZ w.heap.size w a' l) (hl : l.length ≤ 1000000000) :
    Calls Try.prog 17 #[.slice a l.length c1, .slice a' l.length c2] w fun e w' => e = .returned (.bool true) ∧ Below w.heap.size w w' := by
  have h := ints_any a a' c1 c2 l l w h1 h2 hl
  rw [decide_eq_true (rfl : l = l)] at h
  exact h.mono (fun e w' ⟨he, m, hm⟩ => ⟨he, by rw [hm]; exact below_drewN (Below.refl _ _) m⟩)
theorem same_true (x : Int) (a b : Option Addr) (c d : Nat) (l : List Int) (hl : l.length ≤ 1000000000) (w : World) (h1 : ReadsL encZ w.heap.size w a l) (h2 : ReadsL encZ w.heap.size w b l) :
    Calls Try.prog 20 #[.agg #[.int .i64 x, .slice a l.length c], .agg #[.int .i64 x, .slice b l.length d]] w fun e w' => e = .returned (.bool true) ∧ Below w.heap.size w w' := by
  have h := refSame_any x x a b c d l l hl w h1 h2
  rw [decide_eq_true (rfl : l = l), decide_eq_true (rfl : x = x)] at h
  exact h
/-- The document's Check draws at most. -/
theorem refCheck_b (n : Int) (a : Option Addr) (c : Nat) (l : List Int) (hl : l.length ≤ 1000000000) (w : World) (hR : ReadsL encZ w.heap.size w a l) :
    Calls Try.prog 9 #[.int .i64 n, .slice a l.length c] w fun e w' => e = .returned (.int .i64 (chkS n l)) ∧ Below w.heap.size w w' :=
  (Sd.refCheck_any n a c l hl w hR).mono (fun e w' ⟨he, m, hm⟩ => ⟨he, by rw [hm]; exact below_drewN (Below.refl _ _) m⟩)
theorem none_side (S : List Int) : chkS 0 S ≠ 0 := by
  intro h
  obtain ⟨h1, h2, -⟩ := chkS_ok h
  cases S with
  | nil => exact h2 rfl
  | cons v S => have := h1.1 v (by simp); omega
theorem norm_few (N : Nat) (S : List Int) : (normL N S).length ≤ N + S.length := by
  unfold normL
  split
  · have := oth_len S (N : Int).toNat
    simp at this ⊢
    omega
  · omega
set_option maxRecDepth 100000 in
set_option maxHeartbeats 4000000 in
theorem walk_list (n : Int) (hn : (Lit.int .u8 n).wf = true) (a : Option Addr) (cap : Nat) (l : List Ed) (b : Option Addr) (d : Nat) (S : List Int) (W : World) (h1 : EdIn W a l) (_h2 : l.length ≤ maxLen) (h3 : ReadsL encZ W.heap.size W b S) (_h4 : S.length ≤ maxLen) (hcap : S.length ≤ d) :
    Calls Try.prog 3 #[.int .u8 n, .slice a l.length cap, .slice b S.length d] W fun r w' => r = .returned (.bool true) ∧ Below W.heap.size W w' := by
  obtain ⟨n0, n1⟩ : 0 ≤ n ∧ n ≤ 255 := bounds_u8 hn
  clear hn
  have HE0 : Hid (InSt W a l b S W) := Lib.hid ⟨Below.refl _ _, h1.2, h3⟩
  by_cases hlen : l.length ≤ 60
  · have i1 : ¬ (l.length : Int) > 60 := by omega
    by_cases hS : S.length ≤ 300
    · have i2 : ¬ (S.length : Int) > 300 := by omega
      have HNew := Lib.hid (newU_any n a cap l h1.1 _ h1.2)
      have HRe := Lib.hid (fun w hR => refU_any n a cap l (by omega) h1.1 w hR)
      obtain ⟨e1, e2, he⟩ : ∃ e1 e2, errN n l = (e1, e2) := ⟨_, _, rfl⟩
      have HEQ := Lib.hid he
      unfold NewU Kind at HNew
      unfold RefU at HRe
      rw [he] at HNew HRe
      simp only at HNew HRe
      clear h1 he h3
      go_enter Try.func3, Try.ntmps3
      go_wp2_with fail
      refine HNew.out.mono ?_
      rintro e w1 ⟨hb, p, N, M, rfl, hnt, ⟨hN, hM, hG⟩, ⟨hz, rfl, rfl, rfl⟩ | ⟨hz, ⟨g0, rfl⟩, hnN, hm⟩⟩
      · have t1 : (e1 != 0) = true := by simpa using hz
        have HE1 := Lib.hid (HE0.out.keep hb)
        have HK := Lib.hid (none_side S)
        have HW := Lib.hid (fun w h => sideWeight_any none 0 [] (by omega) (GoodN.nil _) (by simp) b d S (by omega) w (NetAt.nil _) h)
        have HR := Lib.hid (fun w h => sideRight_any none 0 [] (by omega) (GoodN.nil _) (by simp) 0 b d S (by omega) w (NetAt.nil _) h)
        have HC := Lib.hid (fun w h => refCheck_b 0 b d S (by omega) w h)
        have hkk : chkS ((0 : Nat) : Int) S = chkS 0 S := rfl
        rw [hkk] at HW HR
        clear hkk hnt hN hM hG HRe HNew hb hz HE0 HEQ
        generalize chkS 0 S = K at *
        simp only [decide_eq_false HK.out, Bool.false_and, if_neg HK.out] at HW HR
        clear HK
        have bK : (K == K) = true := beq_self_eq_true _
        go_wp2_with fail
        refine (HW.out _ HE1.out.2.2).mono ?_
        rintro e w2 ⟨rfl, hb⟩
        have HE2 := Lib.hid (HE1.out.keep hb)
        clear hb HE1
        go_wp2_with fail
        refine (HC.out _ HE2.out.2.2).mono ?_
        rintro e w3 ⟨rfl, hb⟩
        have HE3 := Lib.hid (HE2.out.keep hb)
        clear hb HE2
        go_wp2_with fail
        refine (HR.out _ HE3.out.2.2).mono ?_
        rintro e w4 ⟨rfl, hb⟩
        have HE4 := Lib.hid (HE3.out.keep hb)
        clear hb HE3
        go_wp2_with fail
        refine (awake_any _).mono ?_
        rintro e w5 ⟨rfl, hb⟩
        have HE5 := Lib.hid (HE4.out.keep hb)
        clear hb HE4
        go_wp2
        go_ret
        exact ⟨rfl, HE5.out.1⟩
      simp only [Prod.mk.injEq] at hz
      obtain ⟨rfl, rfl⟩ := hz
      subst hnN
      have hM2 : M.length ≤ 60 := by
        have hc : ∀ e ∈ l, chkE (N : Int) e = 0 := by
          have h := congrArg (·.1) HEQ.out
          unfold errN at h
          rw [if_neg (by omega), if_neg (by omega)] at h
          exact chkL_good h
        obtain ⟨M', m1, m2, m3⟩ := merged (fun e he => by
          have h := hc e he
          unfold chkE at h
          split at h
          · next h1 => split at h
                       · next h2 => exact ⟨by unfold In; omega, by unfold In; omega, by unfold In; omega⟩
                       · omega
          · omega) hc (by omega)
        obtain rfl := Option.some.inj (m1.symm.trans hm)
        omega
      have HM : Hid (M.length ≤ 1048576) := Lib.hid hM
      have HE1 := Lib.hid (HE0.out.keep hb)
      have HN1 := Lib.hid hnt
      have HMM := Lib.hid hm
      have HGG := Lib.hid hG
      have HNN := Lib.hid hN
      clear hb HNew HE0 HEQ hG hnt hN hM
      go_wp2_with fail
      refine (HRe.out _ HE1.out.2.1).mono ?_
      rintro e w3 ⟨hb3, x, q, c, M2, rfl, hr3, ⟨hno, -⟩ | ⟨-, hx, hm2⟩⟩
      · exact absurd rfl hno
      obtain rfl : M = M2 := Option.some.inj (HMM.out.symm.trans hm2)
      subst hx
      have HE3 := Lib.hid (HE1.out.keep hb3)
      have hbA : Below w3.heap.size w3 (w3.alloc (.cells #[.int .i64 (N : Int), .slice q M.length c] 36)) := (Below.refl _ _).alloc (Nat.le_refl _) _
      have hbB := hb3.trans (hbA.mono hb3.size)
      have HT4 : Hid (TellSt W w3.heap.size q c N M g0 b S (w3.alloc (.cells #[.int .i64 (N : Int), .slice q M.length c] 36))) :=
        Lib.hid ⟨HE3.out.1.trans (hbA.mono HE3.out.1.size), TwoAt.new _ _ _ _, HN1.out.over hbB, hr3.over hbA (Nat.le_refl _), HE3.out.2.2.over hbA (Nat.le_refl _)⟩
      clear hb3 hbA hbB hr3 hm2 HN1 HRe HMM HE3 HE1
      go_wp2_with fail
      generalize w3.alloc (.cells #[.int .i64 (N : Int), .slice q M.length c] 36) = w4 at *
      generalize w3.heap.size = X at *
      have HC := Lib.hid (fun w h => refCheck_b N b d S (by omega) w h)
      have HP1 := Lib.hid (fun w h => sideWeight_any (some ⟨g0, 0, none⟩) N M HNN.out HGG.out HM.out b d S (by omega) w h)
      have HP2 := Lib.hid (fun w h => sideCrossing_any (some ⟨g0, 0, none⟩) N M HNN.out HGG.out HM.out b d S (by omega) w h)
      have HP3 := Lib.hid (fun w h => sideNormal_any N HNN.out b d S (by omega) hcap w h)
      have HP4 := Lib.hid (fun w h => sideCut_any (some ⟨g0, 0, none⟩) N M HNN.out HGG.out HM.out b d S (by omega) w h)
      have HP5 := Lib.hid (fun w h => sideCheck_any N b d S (by omega) w h)
      have HP6 := Lib.hid (fun x b' d' w h => sideRight_any (some ⟨g0, 0, none⟩) N M HNN.out HGG.out HM.out x b' d' S (by omega) w h)
      have HR1 := Lib.hid (fun w h => refWeight_any N q c M (by omega) HGG.out.non HGG.out.2.2 b d S (by omega) w h)
      have HR2 := Lib.hid (fun w h => refCrossing_any N q c M (by omega) b d S (by omega) w h)
      have HR3 := Lib.hid (fun w h => Sd.refNormal_any N (by have := HNN.out; omega) b d S (by omega) w h)
      unfold SideL at HP2 HP3
      unfold SideC at HP4
      unfold IntsOf at HR2 HR3
      obtain ⟨cw, hcw⟩ : ∃ cw, cw = if chkS N S = 0 then cutW M (inS S) else 0 := ⟨_, rfl⟩
      obtain ⟨CL, hCL⟩ : ∃ CL, CL = if chkS N S = 0 then crossL M (inS S) M.length else [] := ⟨_, rfl⟩
      obtain ⟨NL, hNL⟩ : ∃ NL, NL = if chkS N S = 0 then normL N S else [] := ⟨_, rfl⟩
      obtain ⟨SL, hSL⟩ : ∃ SL, SL = if chkS N S = 0 then S else [] := ⟨_, rfl⟩
      rw [← hcw] at HP1 HP4
      rw [← hCL] at HP2
      rw [← hNL] at HP3
      rw [← hSL] at HP4
      have HQ := Lib.hid (And.intro hcw (And.intro hCL (And.intro hNL hSL)))
      clear hcw hCL hNL hSL
      obtain ⟨K, hK⟩ : ∃ K, K = chkS N S := ⟨_, rfl⟩
      rw [← hK] at HC HP1 HP2 HP3 HP4 HP5 HP6 HQ
      clear hK
      have bK : (K == K) = true := beq_self_eq_true _
      have bK2 : (K != K) = false := by simp
      go_wp2_with fail
      refine (HC.out _ HT4.out.2.2.2.2).mono ?_
      rintro e w5 ⟨rfl, hb⟩
      have HT5 := Lib.hid (HT4.out.keep hb)
      clear hb HT4
      go_wp2_with fail
      refine (HP1.out _ HT5.out.2.2.1 HT5.out.2.2.2.2).mono ?_
      rintro e w6 ⟨rfl, hb⟩
      have HT6 := Lib.hid (HT5.out.keep hb)
      clear hb HT5
      go_wp2_with fail
      refine (HP2.out _ HT6.out.2.2.1 HT6.out.2.2.2.2).mono ?_
      rintro e w7 ⟨hb, q1, c1, rfl, hr⟩
      have HT7 := Lib.hid (HT6.out.keep hb)
      have HA7 : Hid (Told q1 CL w7) := Lib.hid hr
      clear hr
      clear hb HT6
      go_wp2_with fail
      refine (HP3.out _ HT7.out.2.2.2.2).mono ?_
      rintro e w8 ⟨hb, q2, c2, rfl, hr⟩
      have HT8 := Lib.hid (HT7.out.keep hb)
      have HA8 := Lib.hid (HA7.out.keep hb)
      have HB8 : Hid (Told q2 NL w8) := Lib.hid hr
      clear hr
      clear hb HT7 HA7
      go_wp2_with fail
      refine (HP4.out _ HT8.out.2.2.1 HT8.out.2.2.2.2).mono ?_
      rintro e w9 ⟨hb, q3, c3, rfl, hr⟩
      have hbA : Below w9.heap.size w9 (w9.alloc (.cells #[.int .i64 cw, .slice q3 SL.length c3] 34)) := (Below.refl _ _).alloc (Nat.le_refl _) _
      have hbB := hb.trans (hbA.mono hb.size)
      have HT10 := Lib.hid (HT8.out.keep hbB)
      have HA10 := Lib.hid (HA8.out.keep hbB)
      have HB10 := Lib.hid (HB8.out.keep hbB)
      have HD10 : Hid (CutAt w9.heap.size cw q3 c3 SL (w9.alloc (.cells #[.int .i64 cw, .slice q3 SL.length c3] 34))) := Lib.hid ⟨TwoAt.new _ _ _ _, hr.over hbA (Nat.le_refl _)⟩
      clear hb hbA hbB hr HT8 HA8 HB8
      go_wp2_with fail
      generalize w9.alloc (.cells #[.int .i64 cw, .slice q3 SL.length c3] 34) = w10 at *
      generalize w9.heap.size = Y at *
      go_wp2_with fail
      refine (HP5.out _ HT10.out.2.2.2.2).mono ?_
      rintro e w11 ⟨rfl, hb⟩
      have HT11 := Lib.hid (HT10.out.keep hb)
      have HA11 := Lib.hid (HA10.out.keep hb)
      have HB11 := Lib.hid (HB10.out.keep hb)
      have HD11 := Lib.hid (HD10.out.keep hb)
      clear hb HT10 HA10 HB10 HD10
      by_cases hk : K = 0
      · subst hk
        obtain ⟨y1, y2, y3, y4⟩ := HQ.out
        rw [if_pos rfl] at y1 y2 y3 y4
        have bc0 : 0 ≤ cw := by rw [y1]; exact cut_nonneg HGG.out.non _
        have bc1 : cw ≤ 2251799813685248 := by rw [y1]; exact Int.le_trans (cut_le_all HGG.out.non _) HGG.out.2.2
        have HCl : Hid (CL.length ≤ 1000000000) := Lib.hid (by rw [y2]; exact Nat.le_trans (cross_len M (inS S) (Nat.le_refl _)) (by omega))
        have HNl : Hid (NL.length ≤ 1000000000) := Lib.hid (by rw [y3]; exact Nat.le_trans (norm_few N S) (by omega))
        rw [← y1] at HR1 HP6
        rw [← y2] at HR2
        rw [← y3] at HR3
        have h7 := fun b' d' w h => HP6.out cw b' d' w h
        simp only [decide_true, Bool.and_self] at h7
        have HP7 := Lib.hid h7
        have h8 := fun b' d' w h => HP6.out (cw + 1) b' d' w h
        have hne : ¬ cw = cw + 1 := by omega
        simp only [decide_eq_false hne, Bool.and_false] at h8
        have HP8 := Lib.hid h8
        subst y4
        clear y1 y2 y3 h7 h8 hne HQ HP6
        have bcw : (cw == cw) = true := beq_self_eq_true _
        obtain ⟨d0, d1, -, -⟩ := HT11.out.2.1
        go_wp2_with fail
        refine (HR1.out _ HT11.out.2.2.2.1 HT11.out.2.2.2.2).mono ?_
        rintro e w12 ⟨rfl, hb⟩
        have HT12 := Lib.hid (HT11.out.keep hb)
        have HA12 := Lib.hid (HA11.out.keep hb)
        have HB12 := Lib.hid (HB11.out.keep hb)
        have HD12 := Lib.hid (HD11.out.keep hb)
        clear d0 d1
        clear hb HT11 HA11 HB11 HD11
        obtain ⟨d0, d1, -, -⟩ := HT12.out.2.1
        go_wp2_with fail
        refine (HR2.out _ HT12.out.2.2.2.1 HT12.out.2.2.2.2).mono ?_
        rintro e w13 ⟨hb, q5, c5, rfl, hr⟩
        have HT13 := Lib.hid (HT12.out.keep hb)
        have HA13 := Lib.hid (HA12.out.keep hb)
        have HB13 := Lib.hid (HB12.out.keep hb)
        have HD13 := Lib.hid (HD12.out.keep hb)
        have HF13 : Hid (Told q5 CL w13) := Lib.hid hr
        clear hr d0 d1
        clear hb HT12 HA12 HB12 HD12
        go_wp2_with fail
        refine (ints_true q1 q5 c1 c5 CL _ HA13.out HF13.out HCl.out).mono ?_
        rintro e w14 ⟨rfl, hb⟩
        have HT14 := Lib.hid (HT13.out.keep hb)
        have HB14 := Lib.hid (HB13.out.keep hb)
        have HD14 := Lib.hid (HD13.out.keep hb)
        clear HA13 HF13
        clear hb HT13 HB13 HD13
        go_wp2_with fail
        refine (HR3.out _ HT14.out.2.2.2.2).mono ?_
        rintro e w15 ⟨hb, q6, c6, rfl, hr⟩
        have HT15 := Lib.hid (HT14.out.keep hb)
        have HB15 := Lib.hid (HB14.out.keep hb)
        have HD15 := Lib.hid (HD14.out.keep hb)
        have HF15 : Hid (Told q6 NL w15) := Lib.hid hr
        clear hr
        clear hb HT14 HB14 HD14
        go_wp2_with fail
        refine (ints_true q2 q6 c2 c6 NL _ HB15.out HF15.out HNl.out).mono ?_
        rintro e w16 ⟨rfl, hb⟩
        have HT16 := Lib.hid (HT15.out.keep hb)
        have HD16 := Lib.hid (HD15.out.keep hb)
        clear HB15 HF15
        clear hb HT15 HD15
        obtain ⟨d0, d1, -, -⟩ := HD16.out.1
        go_wp2_with fail
        refine (same_true cw q3 b c3 d SL (by omega) _ HD16.out.2 HT16.out.2.2.2.2).mono ?_
        rintro e w17 ⟨rfl, hb⟩
        have HT17 := Lib.hid (HT16.out.keep hb)
        have HD17 := Lib.hid (HD16.out.keep hb)
        clear d0 d1
        clear hb HT16 HD16
        obtain ⟨d0, d1, -, -⟩ := HD17.out.1
        go_wp2_with fail
        refine (HP7.out q3 c3 _ HT17.out.2.2.1 HD17.out.2).mono ?_
        rintro e w18 ⟨rfl, hb⟩
        have HT18 := Lib.hid (HT17.out.keep hb)
        clear d0 d1
        clear hb HT17
        go_wp2_with fail
        refine (HP8.out b d _ HT18.out.2.2.1 HT18.out.2.2.2.2).mono ?_
        rintro e w19 ⟨rfl, hb⟩
        have HT19 := Lib.hid (HT18.out.keep hb)
        clear hb HT18
        go_wp2_with fail
        refine (awake_any _).mono ?_
        rintro e w20 ⟨rfl, hb⟩
        have HT20 := Lib.hid (HT19.out.keep hb)
        clear hb HT19
        go_wp2
        go_ret
        exact ⟨rfl, HT20.out.1⟩
      · have t2 : (K != 0) = true := by simpa using hk
        obtain ⟨y1, y2, y3, y4⟩ := HQ.out
        rw [if_neg hk] at y1 y2 y3 y4
        simp only [decide_eq_false hk, Bool.false_and] at HP6
        have z2 : CL.length = 0 := by rw [y2]; rfl
        have z3 : NL.length = 0 := by rw [y3]; rfl
        have z4 : SL.length = 0 := by rw [y4]; rfl
        clear y2 y3 y4 hk HQ
        subst y1
        obtain ⟨d0, d1, -, -⟩ := HD11.out.1
        go_wp2_with fail
        refine (HP6.out 0 b d _ HT11.out.2.2.1 HT11.out.2.2.2.2).mono ?_
        rintro e w12 ⟨rfl, hb⟩
        have HT12 := Lib.hid (HT11.out.keep hb)
        clear hb HT11
        go_wp2_with fail
        refine (awake_any _).mono ?_
        rintro e w13 ⟨rfl, hb⟩
        have HT13 := Lib.hid (HT12.out.keep hb)
        clear hb HT12
        go_wp2
        go_ret
        exact ⟨rfl, HT13.out.1⟩
    · have i2 : (S.length : Int) > 300 := by omega
      go_enter Try.func3, Try.ntmps3
      go_wp2_with fail
      refine (awake_any _).mono ?_
      rintro e w1 ⟨rfl, hb1⟩
      have HB := Lib.hid hb1
      clear hb1
      go_wp2
      go_ret
      exact ⟨rfl, HB.out⟩
  · have i1 : (l.length : Int) > 60 := by omega
    go_enter Try.func3, Try.ntmps3
    go_wp2_with fail
    refine (awake_any _).mono ?_
    rintro e w1 ⟨rfl, hb1⟩
    have HB := Lib.hid hb1
    clear hb1
    go_wp2
    go_ret
    exact ⟨rfl, HB.out⟩
theorem own : ownKnob Try.prog.godebug = none := by kernel_rfl
theorem laidOut : laidOutB Try.prog = true := by kernel_rfl
set_option maxRecDepth 100000 in
theorem lifted (os : Os) (started : os.Started) (H : Type) (enc : TypeId × Value → H) :
    ReturnsInHanded {} Try.checked os 3 .any (Rows.sideTellsSpec.pre6 enc Try.prog Try.f3 Rows.sideTellsRow.domain false) (Rows.sideTellsSpec.post enc Try.prog Try.f3 false true false false) := by
  refine returnsInHanded_of_change (C := Try.checked) own started (by kernel_rfl) Try.func3
    (ChangeSpec.witness6 (enc := enc) (C := Try.checked) false ⟨#[], #[.int .u8 0, .slice none 0 0, .slice none 0 0], []⟩ 8 (by kernel_rfl) (by kernel_rfl) (by kernel_rfl) (by kernel_rfl)) ?_
  intro W base args ds gs before hval0 hW hcnd _
  have hval : ∀ (j : Nat) t v, Try.f3.params[j]? = some t → args[j]? = some v → Value.okWide Try.prog W .any base t v := hval0
  have hW' := hW
  obtain ⟨p, q, hA0, hV, rfl, hfz, hnd⟩ := hW
  have hA : DataW.TrodAll enc Try.prog W 0 (fun _ => true) true Try.f3.params.toList args.toList ds p := hA0
  rw [Try.params3] at hA hval
  obtain ⟨v0, vs0, d0, ds0, p0, q0, hargs, rfl, rfl, h0, r0⟩ := trodAll_cons hA
  obtain ⟨v1, vs1, d1, ds1, p1, q1, rfl, rfl, rfl, h1, r1⟩ := trodAll_cons r0
  obtain ⟨v2, vs2, d2, ds2, p2, q2, rfl, rfl, rfl, h2, r2⟩ := trodAll_cons r1
  obtain ⟨rfl, rfl, rfl⟩ := trodAll_nil r2
  obtain rfl : args = #[v0, v1, v2] := by cases args; simp_all
  obtain ⟨rfl, rfl⟩ := trodVars_none hV
  obtain ⟨a0, rfl, rfl, rfl, w0⟩ := open_int Try.underlying5 (hval 0 5 v0 rfl rfl) h0
  obtain ⟨a1, len1, cap1, rfl⟩ := okWide_slice Try.underlying22 (hval 1 22 v1 rfl rfl)
  have k1 := h1
  have lt1 : ∀ x ∈ p1, x.block < W.heap.size := by obtain ⟨m, hm⟩ := k1; exact DataW.trod_lt m _ _ _ hm
  obtain ⟨l1, hlen1, w1⟩ : ∃ l : List Ed, l.length = len1 ∧ EdIn W a1 l ∧ l.length ≤ maxLen := by
    obtain ⟨fuel, hf⟩ := h1
    exact open_edges hf
  subst hlen1
  obtain ⟨a2, len2, cap2, rfl⟩ := okWide_slice Try.underlying23 (hval 2 23 v2 rfl rfl)
  have k2 := h2
  have lt2 : ∀ x ∈ p2, x.block < W.heap.size := by obtain ⟨m, hm⟩ := k2; exact DataW.trod_lt m _ _ _ hm
  obtain ⟨l2, hlen2, w2⟩ : ∃ l : List Int, l.length = len2 ∧ ReadsL encZ W.heap.size W a2 l ∧ l.length ≤ maxLen ∧ l.length ≤ cap2 := by
    obtain ⟨fuel, hf⟩ := h2
    exact open_intsLC hf
  subst hlen2
  clear hA0 hval0
  refine (walk_list a0 w0 a1 cap1 l1 a2 cap2 l2 W w1.1 w1.2 w2.1 w2.2.1 w2.2.2).mono fun e W' ⟨he, bel⟩ => ?_
  subst he
  exact ⟨_, rfl, _, _, _, [], _, [], hW', trodAll_mk1 (shut_bool Try.underlying4 _), (trodAll_cons_mk (shut_int Try.underlying5 w0) (trodAll_cons_mk (Below.trod laidOut (by kernel_rfl) (of_decide_eq_true (by kernel_rfl)) k1 bel lt1) (trodAll_cons_mk (Below.trod laidOut (by kernel_rfl) (of_decide_eq_true (by kernel_rfl)) k2 bel lt2) trodAll_mk0))), rfl, bel.frame _, fun h => by cases h⟩
theorem over : Rows.sideTellsRow.holds Try.pinned (OpenSpec.ofChange Rows.sideTellsSpec) :=
  OpenClaim.holds_of_wide 3 Try.f3 rfl rfl rfl rfl rfl rfl rfl ⟨rfl, rfl, rfl, rfl, rfl⟩ rfl rfl rfl rfl rfl (by kernel_rfl) Try.func3 (by kernel_rfl)
    (of_decide_eq_true (by kernel_rfl)) (by unfold Func.isWrapper; first | (rw [if_pos (by decide +kernel)]; kernel_rfl) | (rw [if_neg (by decide +kernel)]; exact ⟨rfl, rfl⟩))
    (fun os started H enc _ => lifted os started H enc)
/-- The statement. -/
theorem proved : Rows.SideTellsSaid := over
#print axioms proved
end Go.Proofs.Ytbankocbncpepaa.sideTells
