/- The least cut between any two vertices of any small graph, and all pairs, are what the document says; or there is none, and the program tells why. Conditions: none: every number of vertices up to 255, every slice of edges, every two numbers (of more than 60 edges, or seven to twenty vertices, the law asks only that the program goes through cuts at all). -/
import Derived.Test.YtceejjgmepaonaaDoorPk32
import Derived.Test.YtceejjgmepaonaaDoorPk36
import Derived.Test.YtceejjgmepaonaaDoorChecked
import Derived.Test.YtceejjgmepaonaaDoorPk40
import Derived.Test.YtceejjgmepaonaaDoorRows
import Derived.Test.YtceejjgmepaonaaDoorTie
import Derived.Test.YtceejjgmepaonaaDoorCards
import Derived.SevenTiedAt
import Derived.ChangeSlices
import Derived.ProofKit
import Derived.OpenShut
import Derived.ChangeOld
import Derived.Below
import Derived.Carry
namespace Go.Proofs.YtceejjgmepaonaaDoor.brutePairs
open Go.ChangeShapes Go.WideShapes Go.ChangeAt Go.RowKit EdPure NtPure CutPure SdPure BrPure Cm Sd Br Bg
/-- Beside what came in, or is told: the two numbers. -/
def PinSt (w : World) (a : Option Addr) (l : List Ed) (X0 : Nat) (s t : Int) (W : World) : Prop := InSt w a l W ∧ TwoAt X0 W (.int .i64 s) (.int .i64 t)
theorem PinSt.keep {w W W' : World} {a : Option Addr} {l : List Ed} {X0 : Nat} {s t : Int} (h : PinSt w a l X0 s t W) (hb : Below W.heap.size W W') : PinSt w a l X0 s t W' := ⟨h.1.keep hb, h.2.on hb h.2.lt⟩
def ParSt (w : World) (X : Nat) (q : Option Addr) (c N : Nat) (M : List Ed) (g : Nat) (X0 : Nat) (s t : Int) (W : World) : Prop := TellSt w X q c N M g W ∧ TwoAt X0 W (.int .i64 s) (.int .i64 t)
theorem ParSt.keep {w W W' : World} {X : Nat} {q : Option Addr} {c N : Nat} {M : List Ed} {g : Nat} {X0 : Nat} {s t : Int} (h : ParSt w X q c N M g X0 s t W) (hb : Below W.heap.size W W') : ParSt w X q c N M g X0 s t W' := ⟨h.1.keep hb, h.2.on hb h.2.lt⟩
set_option maxRecDepth 100000 in
set_option maxHeartbeats 8000000 in
theorem walk_list (n : Int) (hn : (Lit.int .u8 n).wf = true) (a : Option Addr) (cap : Nat) (l : List Ed) (x : Int × Int) (W : World) (h1 : EdIn W a l) (_h2 : l.length ≤ maxLen) (hx : (-9223372036854775808 ≤ x.1 ∧ x.1 ≤ 9223372036854775807) ∧ -9223372036854775808 ≤ x.2 ∧ x.2 ≤ 9223372036854775807) (hT : Tab W) :
    Calls Tryd.prog 3 #[.int .u8 n, .slice a l.length cap, .agg #[.int .i64 x.1, .int .i64 x.2]] W fun r w' => r = .returned (.bool true) ∧ Below W.heap.size W w' := by
  obtain ⟨s, t⟩ := x
  simp only at hx ⊢
  clear hx
  obtain ⟨n0, n1⟩ : 0 ≤ n ∧ n ≤ 255 := bounds_u8 hn
  clear hn
  have HTab := Lib.hid hT
  clear hT
  have hbX : Below W.heap.size W (W.alloc (.cells #[.int .i64 s, .int .i64 t] 23)) := (Below.refl _ _).alloc (Nat.le_refl _) _
  have HE0 : Hid (PinSt W a l W.heap.size s t (W.alloc (.cells #[.int .i64 s, .int .i64 t] 23))) := Lib.hid ⟨⟨hbX, h1.2.over hbX (Nat.le_refl _)⟩, TwoAt.new _ _ _ _⟩
  by_cases hlen : l.length ≤ 60
  case neg =>
    have i1 : (l.length : Int) > 60 := by omega
    go_enter Tryd.func3, Tryd.ntmps3
    go_wp2_with fail
    refine (awake_any _ (tab_on HTab.out (by first | exact Below.refl _ _ | exact HBc.out | exact HBc.out.1 | exact HBc.out.1.1 | exact HE0.out | exact HE0.out.1 | exact HE0.out.1.1 | exact HE1.out | exact HE1.out.1 | exact HE1.out.1.1 | exact HE2.out | exact HE2.out.1 | exact HE2.out.1.1 | exact HE3.out | exact HE3.out.1 | exact HE3.out.1.1 | exact HE4.out | exact HE4.out.1 | exact HE4.out.1.1 | exact HT4.out | exact HT4.out.1 | exact HT4.out.1.1 | exact HT6.out | exact HT6.out.1 | exact HT6.out.1.1 | exact HT8.out | exact HT8.out.1 | exact HT8.out.1.1 | exact HTa.out | exact HTa.out.1 | exact HTa.out.1.1 | exact HTb.out | exact HTb.out.1 | exact HTb.out.1.1 | exact HTc.out | exact HTc.out.1 | exact HTc.out.1.1 | exact HTd.out | exact HTd.out.1 | exact HTd.out.1.1 | exact HTe.out | exact HTe.out.1 | exact HTe.out.1.1) (Nat.le_refl _))).mono ?_
    rintro e w1 ⟨rfl, hb⟩
    have HE1 := Lib.hid (HE0.out.keep hb)
    clear hb HE0
    go_wp2
    go_ret
    exact ⟨rfl, HE1.out.1.1⟩
  have i1 : ¬ (l.length : Int) > 60 := by omega
  by_cases hmid : 6 < n ∧ n < 21
  · obtain ⟨i2, i3⟩ := hmid
    go_enter Tryd.func3, Tryd.ntmps3
    go_wp2_with fail
    refine (awake_any _ (tab_on HTab.out (by first | exact Below.refl _ _ | exact HBc.out | exact HBc.out.1 | exact HBc.out.1.1 | exact HE0.out | exact HE0.out.1 | exact HE0.out.1.1 | exact HE1.out | exact HE1.out.1 | exact HE1.out.1.1 | exact HE2.out | exact HE2.out.1 | exact HE2.out.1.1 | exact HE3.out | exact HE3.out.1 | exact HE3.out.1.1 | exact HE4.out | exact HE4.out.1 | exact HE4.out.1.1 | exact HT4.out | exact HT4.out.1 | exact HT4.out.1.1 | exact HT6.out | exact HT6.out.1 | exact HT6.out.1.1 | exact HT8.out | exact HT8.out.1 | exact HT8.out.1.1 | exact HTa.out | exact HTa.out.1 | exact HTa.out.1.1 | exact HTb.out | exact HTb.out.1 | exact HTb.out.1.1 | exact HTc.out | exact HTc.out.1 | exact HTc.out.1.1 | exact HTd.out | exact HTd.out.1 | exact HTd.out.1.1 | exact HTe.out | exact HTe.out.1 | exact HTe.out.1.1) (Nat.le_refl _))).mono ?_
    rintro e w1 ⟨rfl, hb⟩
    have HE1 := Lib.hid (HE0.out.keep hb)
    clear hb HE0
    go_wp2
    go_ret
    exact ⟨rfl, HE1.out.1.1⟩
  have HNew := Lib.hid (newU_any n a cap l h1.1 _ HE0.out.1.2)
  have HRe := Lib.hid (fun w hR => refU_any n a cap l (by omega) h1.1 w hR)
  obtain ⟨e1, e2, he⟩ : ∃ e1 e2, errN n l = (e1, e2) := ⟨_, _, rfl⟩
  have HEQ := Lib.hid he
  unfold NewU Kind at HNew
  unfold RefU at HRe
  rw [he] at HNew HRe
  simp only at HNew HRe
  have HMID := Lib.hid hmid
  clear h1 he hmid hbX
  have key : (6 < n ∧ ¬ n < 21) ∨ ¬ 6 < n := by have := HMID.out; omega
  go_enter Tryd.func3, Tryd.ntmps3
  go_upto_region 1 with fail
  generalize W.alloc (.cells #[.int .i64 s, .int .i64 t] 23) = W0 at *
  generalize W.heap.size = X0 at *
  rcases key with ⟨k1, k2⟩ | k1
  · go_wp2_with fail
    refine HNew.out.mono ?_
    rintro e w1 ⟨hb, p, N, M, rfl, hnt, ⟨hN, hM, hG⟩, ⟨hz, rfl, rfl, rfl⟩ | ⟨hz, ⟨g0, rfl⟩, hnN, hm⟩⟩
    · have t1 : (e1 != 0) = true := by simpa using hz
      have HE1 := Lib.hid (HE0.out.keep hb)
      have HL := Lib.hid (fun w ht => brPair_any none 0 [] (by omega) (GoodN.nil _) (by simp) s t w (NetAt.nil w) ht)
      have hp4 : prE 0 s t = 4 := by
        have h1 : bothE ((0 : Nat) : Int) s t = 4 := if_neg (by omega)
        unfold prE
        rw [h1]
        rfl
      have hpW : prW 0 [] s t = 0 := by unfold prW; rw [hp4]; rfl
      have hpS : prS 0 [] s t = [] := by unfold prS; rw [hp4]; rfl
      unfold SideC at HL
      rw [hp4, hpW, hpS] at HL
      obtain ⟨s0, s1, -, -⟩ := HE1.out.2
      have sl := HE1.out.2.lt
      clear hnt hN hM hG HRe HNew hb hz HE0 HEQ hp4 hpW hpS
      go_wp2_with fail
      refine (HL.out _ (tab_on HTab.out (by first | exact Below.refl _ _ | exact HBc.out | exact HBc.out.1 | exact HBc.out.1.1 | exact HE0.out | exact HE0.out.1 | exact HE0.out.1.1 | exact HE1.out | exact HE1.out.1 | exact HE1.out.1.1 | exact HE2.out | exact HE2.out.1 | exact HE2.out.1.1 | exact HE3.out | exact HE3.out.1 | exact HE3.out.1.1 | exact HE4.out | exact HE4.out.1 | exact HE4.out.1.1 | exact HT4.out | exact HT4.out.1 | exact HT4.out.1.1 | exact HT6.out | exact HT6.out.1 | exact HT6.out.1.1 | exact HT8.out | exact HT8.out.1 | exact HT8.out.1.1 | exact HTa.out | exact HTa.out.1 | exact HTa.out.1.1 | exact HTb.out | exact HTb.out.1 | exact HTb.out.1.1 | exact HTc.out | exact HTc.out.1 | exact HTc.out.1.1 | exact HTd.out | exact HTd.out.1 | exact HTd.out.1.1 | exact HTe.out | exact HTe.out.1 | exact HTe.out.1.1) (Nat.le_refl _))).mono ?_
      rintro e w2 ⟨hb, q2, c2, rfl, -⟩
      have HE2 := Lib.hid (HE1.out.keep (hb.alloc hb.size (.cells #[.int .i64 0, .slice q2 0 c2] 31)))
      clear hb HE1 HL s0 s1 sl
      go_wp2_with fail
      generalize w2.alloc (.cells #[.int .i64 0, .slice q2 0 c2] 31) = w3 at *
      refine (awake_any _ (tab_on HTab.out (by first | exact Below.refl _ _ | exact HBc.out | exact HBc.out.1 | exact HBc.out.1.1 | exact HE0.out | exact HE0.out.1 | exact HE0.out.1.1 | exact HE1.out | exact HE1.out.1 | exact HE1.out.1.1 | exact HE2.out | exact HE2.out.1 | exact HE2.out.1.1 | exact HE3.out | exact HE3.out.1 | exact HE3.out.1.1 | exact HE4.out | exact HE4.out.1 | exact HE4.out.1.1 | exact HT4.out | exact HT4.out.1 | exact HT4.out.1.1 | exact HT6.out | exact HT6.out.1 | exact HT6.out.1.1 | exact HT8.out | exact HT8.out.1 | exact HT8.out.1.1 | exact HTa.out | exact HTa.out.1 | exact HTa.out.1.1 | exact HTb.out | exact HTb.out.1 | exact HTb.out.1.1 | exact HTc.out | exact HTc.out.1 | exact HTc.out.1.1 | exact HTd.out | exact HTd.out.1 | exact HTd.out.1.1 | exact HTe.out | exact HTe.out.1 | exact HTe.out.1.1) (Nat.le_refl _))).mono ?_
      rintro e w4 ⟨rfl, hb⟩
      have HE4 := Lib.hid (HE2.out.keep hb)
      clear hb
      go_wp2
      go_ret
      exact ⟨rfl, HE4.out.1.1⟩
    simp only [Prod.mk.injEq] at hz
    obtain ⟨rfl, rfl⟩ := hz
    subst hnN
    have hM2 : M.length ≤ 60 := Nat.le_trans (few_edges hN HEQ.out (by omega) hm) hlen
    have HM : Hid (M.length ≤ 100000) := Lib.hid (by omega)
    have HE1 := Lib.hid (HE0.out.keep hb)
    have HN1 := Lib.hid hnt
    have HMM := Lib.hid hm
    have HGG := Lib.hid hG
    have HNN := Lib.hid hN
    clear hb HNew HE0 HEQ hG hnt hN hM hm
    go_wp2_with fail
    refine (HRe.out _ HE1.out.1.2).mono ?_
    rintro e w3 ⟨hb3, x3, q, c, M2, rfl, hr3, ⟨hno, -⟩ | ⟨-, hx, hm2⟩⟩
    · exact absurd rfl hno
    obtain rfl : M = M2 := Option.some.inj (HMM.out.symm.trans hm2)
    subst hx
    have hbA : Below w3.heap.size w3 (w3.alloc (.cells #[.int .i64 (N : Int), .slice q M.length c] 35)) := (Below.refl _ _).alloc (Nat.le_refl _) _
    have hbB := hb3.trans (hbA.mono hb3.size)
    have HE3 := Lib.hid (HE1.out.keep hbB)
    have HT4 : Hid (ParSt W w3.heap.size q c N M g0 X0 s t (w3.alloc (.cells #[.int .i64 (N : Int), .slice q M.length c] 35))) :=
      Lib.hid ⟨⟨HE3.out.1.1, TwoAt.new _ _ _ _, HN1.out.over hbB, hr3.over hbA (Nat.le_refl _)⟩, HE3.out.2⟩
    clear hb3 hbA hbB hr3 hm2 HN1 HRe HMM HE1 HE3
    go_upto_region 8 with fail
    generalize w3.alloc (.cells #[.int .i64 (N : Int), .slice q M.length c] 35) = w4 at *
    generalize w3.heap.size = X at *
    have HR1 := Lib.hid (fun w h => refPairU_any N q c M HM.out HGG.out.non HGG.out.2.2 s t w h)
    have HP1 := Lib.hid (fun w h ht => brPair_any (some ⟨g0, 0, none⟩) N M HNN.out HGG.out HM.out s t w h ht)
    have HP2 := Lib.hid (fun w h ht => brMatrix_any (some ⟨g0, 0, none⟩) N M HNN.out HGG.out HM.out w h ht)
    unfold GotO at HR1
    unfold SideC at HP1
    unfold RowsE at HP2
    have HSl : Hid ((prS N M s t).length ≤ 1000000000) := Lib.hid (by have := prS_len N M s t; omega)
    generalize prW N M s t = cw at *
    generalize prS N M s t = SL at *
    generalize prE N s t = K at *
    have bK : (K == K) = true := beq_self_eq_true _
    obtain ⟨s0, s1, -, -⟩ := HT4.out.2
    have sl := HT4.out.2.lt
    go_wp2_with fail
    refine (HP1.out _ HT4.out.1.2.2.1 (tab_on HTab.out (by first | exact Below.refl _ _ | exact HBc.out | exact HBc.out.1 | exact HBc.out.1.1 | exact HE0.out | exact HE0.out.1 | exact HE0.out.1.1 | exact HE1.out | exact HE1.out.1 | exact HE1.out.1.1 | exact HE2.out | exact HE2.out.1 | exact HE2.out.1.1 | exact HE3.out | exact HE3.out.1 | exact HE3.out.1.1 | exact HE4.out | exact HE4.out.1 | exact HE4.out.1.1 | exact HT4.out | exact HT4.out.1 | exact HT4.out.1.1 | exact HT6.out | exact HT6.out.1 | exact HT6.out.1.1 | exact HT8.out | exact HT8.out.1 | exact HT8.out.1.1 | exact HTa.out | exact HTa.out.1 | exact HTa.out.1.1 | exact HTb.out | exact HTb.out.1 | exact HTb.out.1.1 | exact HTc.out | exact HTc.out.1 | exact HTc.out.1.1 | exact HTd.out | exact HTd.out.1 | exact HTd.out.1.1 | exact HTe.out | exact HTe.out.1 | exact HTe.out.1.1) (Nat.le_refl _))).mono ?_
    rintro e w7 ⟨hb, q7, c7, rfl, hr⟩
    have hbA : Below w7.heap.size w7 (w7.alloc (.cells #[.int .i64 cw, .slice q7 SL.length c7] 31)) := (Below.refl _ _).alloc (Nat.le_refl _) _
    have hbB := hb.trans (hbA.mono hb.size)
    have HT8 := Lib.hid (HT4.out.keep hbB)
    have HC8 : Hid (CutAt w7.heap.size cw q7 c7 SL (w7.alloc (.cells #[.int .i64 cw, .slice q7 SL.length c7] 31))) := Lib.hid ⟨TwoAt.new _ _ _ _, hr.over hbA (Nat.le_refl _)⟩
    clear hb hbA hbB hr HT4 HP1 s0 s1 sl
    obtain ⟨d0, d1, -, -⟩ := HT8.out.1.2.1
    have dl := HT8.out.1.2.1.lt
    obtain ⟨s0, s1, -, -⟩ := HT8.out.2
    have sl := HT8.out.2.lt
    go_upto_region 9 with fail
    generalize w7.alloc (.cells #[.int .i64 cw, .slice q7 SL.length c7] 31) = w8 at *
    generalize w7.heap.size = Y at *
    go_wp2_with fail
    refine (HR1.out _ HT8.out.1.2.2.2).mono ?_
    rintro e w5 ⟨hb, q5, c5, rfl, hr⟩
    have hbA : Below w5.heap.size w5 (w5.alloc (.cells #[.int .i64 cw, .slice q5 SL.length c5, .int .i64 K] 40)) := (Below.refl _ _).alloc (Nat.le_refl _) _
    have hbB := hb.trans (hbA.mono hb.size)
    have HT6 := Lib.hid (HT8.out.keep hbB)
    have HC6 := Lib.hid (HC8.out.keep hbB)
    have HG6 : Hid (GotAt w5.heap.size cw q5 c5 SL K (w5.alloc (.cells #[.int .i64 cw, .slice q5 SL.length c5, .int .i64 K] 40))) := Lib.hid ⟨ThreeAt.new _ _ _ _ _, hr.over hbA (Nat.le_refl _)⟩
    clear hb hbA hbB hr HT8 HC8 HR1 d0 d1 dl s0 s1 sl
    go_wp2_with fail
    generalize w5.alloc (.cells #[.int .i64 cw, .slice q5 SL.length c5, .int .i64 K] 40) = w6 at *
    generalize w5.heap.size = Z at *
    refine (HP2.out _ HT6.out.1.2.2.1 (tab_on HTab.out (by first | exact Below.refl _ _ | exact HBc.out | exact HBc.out.1 | exact HBc.out.1.1 | exact HE0.out | exact HE0.out.1 | exact HE0.out.1.1 | exact HE1.out | exact HE1.out.1 | exact HE1.out.1.1 | exact HE2.out | exact HE2.out.1 | exact HE2.out.1.1 | exact HE3.out | exact HE3.out.1 | exact HE3.out.1.1 | exact HE4.out | exact HE4.out.1 | exact HE4.out.1.1 | exact HT4.out | exact HT4.out.1 | exact HT4.out.1.1 | exact HT6.out | exact HT6.out.1 | exact HT6.out.1.1 | exact HT8.out | exact HT8.out.1 | exact HT8.out.1.1 | exact HTa.out | exact HTa.out.1 | exact HTa.out.1.1 | exact HTb.out | exact HTb.out.1 | exact HTb.out.1.1 | exact HTc.out | exact HTc.out.1 | exact HTc.out.1.1 | exact HTd.out | exact HTd.out.1 | exact HTd.out.1.1 | exact HTe.out | exact HTe.out.1 | exact HTe.out.1.1) (Nat.le_refl _))).mono ?_
    rintro e wa ⟨hb, qa, ca, M0, rfl, hra⟩
    have HTa := Lib.hid (HT6.out.keep hb)
    have HGa := Lib.hid (HG6.out.keep hb)
    have HCa := Lib.hid (HC6.out.keep hb)
    have HAa : Hid (RowsTold qa (mxM N M) wa) := Lib.hid ⟨M0, hra⟩
    clear hb hra HT6 HG6 HC6 HP2
    obtain ⟨m0, m1, m2, -⟩ := HGa.out.1
    obtain ⟨o0, o1, -, -⟩ := HCa.out.1
    have ml := HGa.out.1.lt
    have ol := HCa.out.1.lt
    have he3 : mxE N = 3 := if_pos (by omega)
    have hm0 : mxM N M = [] := if_pos (by omega)
    rw [he3, hm0]
    rw [hm0] at HAa
    have i9 : (N : Int) > 20 := by omega
    clear he3 hm0
    go_wp2_with fail
    refine (awake_any _ (tab_on HTab.out (by first | exact Below.refl _ _ | exact HBc.out | exact HBc.out.1 | exact HBc.out.1.1 | exact HE0.out | exact HE0.out.1 | exact HE0.out.1.1 | exact HE1.out | exact HE1.out.1 | exact HE1.out.1.1 | exact HE2.out | exact HE2.out.1 | exact HE2.out.1.1 | exact HE3.out | exact HE3.out.1 | exact HE3.out.1.1 | exact HE4.out | exact HE4.out.1 | exact HE4.out.1.1 | exact HT4.out | exact HT4.out.1 | exact HT4.out.1.1 | exact HT6.out | exact HT6.out.1 | exact HT6.out.1.1 | exact HT8.out | exact HT8.out.1 | exact HT8.out.1.1 | exact HTa.out | exact HTa.out.1 | exact HTa.out.1.1 | exact HTb.out | exact HTb.out.1 | exact HTb.out.1.1 | exact HTc.out | exact HTc.out.1 | exact HTc.out.1.1 | exact HTd.out | exact HTd.out.1 | exact HTd.out.1.1 | exact HTe.out | exact HTe.out.1 | exact HTe.out.1.1) (Nat.le_refl _))).mono ?_
    rintro e wb ⟨rfl, hb⟩
    have HTb := Lib.hid (HTa.out.keep hb)
    clear hb HTa
    go_wp2
    go_ret
    exact ⟨rfl, HTb.out.1.1⟩
  · go_wp2_with fail
    refine HNew.out.mono ?_
    rintro e w1 ⟨hb, p, N, M, rfl, hnt, ⟨hN, hM, hG⟩, ⟨hz, rfl, rfl, rfl⟩ | ⟨hz, ⟨g0, rfl⟩, hnN, hm⟩⟩
    · have t1 : (e1 != 0) = true := by simpa using hz
      have HE1 := Lib.hid (HE0.out.keep hb)
      have HL := Lib.hid (fun w ht => brPair_any none 0 [] (by omega) (GoodN.nil _) (by simp) s t w (NetAt.nil w) ht)
      have hp4 : prE 0 s t = 4 := by
        have h1 : bothE ((0 : Nat) : Int) s t = 4 := if_neg (by omega)
        unfold prE
        rw [h1]
        rfl
      have hpW : prW 0 [] s t = 0 := by unfold prW; rw [hp4]; rfl
      have hpS : prS 0 [] s t = [] := by unfold prS; rw [hp4]; rfl
      unfold SideC at HL
      rw [hp4, hpW, hpS] at HL
      obtain ⟨s0, s1, -, -⟩ := HE1.out.2
      have sl := HE1.out.2.lt
      clear hnt hN hM hG HRe HNew hb hz HE0 HEQ hp4 hpW hpS
      go_wp2_with fail
      refine (HL.out _ (tab_on HTab.out (by first | exact Below.refl _ _ | exact HBc.out | exact HBc.out.1 | exact HBc.out.1.1 | exact HE0.out | exact HE0.out.1 | exact HE0.out.1.1 | exact HE1.out | exact HE1.out.1 | exact HE1.out.1.1 | exact HE2.out | exact HE2.out.1 | exact HE2.out.1.1 | exact HE3.out | exact HE3.out.1 | exact HE3.out.1.1 | exact HE4.out | exact HE4.out.1 | exact HE4.out.1.1 | exact HT4.out | exact HT4.out.1 | exact HT4.out.1.1 | exact HT6.out | exact HT6.out.1 | exact HT6.out.1.1 | exact HT8.out | exact HT8.out.1 | exact HT8.out.1.1 | exact HTa.out | exact HTa.out.1 | exact HTa.out.1.1 | exact HTb.out | exact HTb.out.1 | exact HTb.out.1.1 | exact HTc.out | exact HTc.out.1 | exact HTc.out.1.1 | exact HTd.out | exact HTd.out.1 | exact HTd.out.1.1 | exact HTe.out | exact HTe.out.1 | exact HTe.out.1.1) (Nat.le_refl _))).mono ?_
      rintro e w2 ⟨hb, q2, c2, rfl, -⟩
      have HE2 := Lib.hid (HE1.out.keep (hb.alloc hb.size (.cells #[.int .i64 0, .slice q2 0 c2] 31)))
      clear hb HE1 HL s0 s1 sl
      go_wp2_with fail
      generalize w2.alloc (.cells #[.int .i64 0, .slice q2 0 c2] 31) = w3 at *
      refine (awake_any _ (tab_on HTab.out (by first | exact Below.refl _ _ | exact HBc.out | exact HBc.out.1 | exact HBc.out.1.1 | exact HE0.out | exact HE0.out.1 | exact HE0.out.1.1 | exact HE1.out | exact HE1.out.1 | exact HE1.out.1.1 | exact HE2.out | exact HE2.out.1 | exact HE2.out.1.1 | exact HE3.out | exact HE3.out.1 | exact HE3.out.1.1 | exact HE4.out | exact HE4.out.1 | exact HE4.out.1.1 | exact HT4.out | exact HT4.out.1 | exact HT4.out.1.1 | exact HT6.out | exact HT6.out.1 | exact HT6.out.1.1 | exact HT8.out | exact HT8.out.1 | exact HT8.out.1.1 | exact HTa.out | exact HTa.out.1 | exact HTa.out.1.1 | exact HTb.out | exact HTb.out.1 | exact HTb.out.1.1 | exact HTc.out | exact HTc.out.1 | exact HTc.out.1.1 | exact HTd.out | exact HTd.out.1 | exact HTd.out.1.1 | exact HTe.out | exact HTe.out.1 | exact HTe.out.1.1) (Nat.le_refl _))).mono ?_
      rintro e w4 ⟨rfl, hb⟩
      have HE4 := Lib.hid (HE2.out.keep hb)
      clear hb
      go_wp2
      go_ret
      exact ⟨rfl, HE4.out.1.1⟩
    simp only [Prod.mk.injEq] at hz
    obtain ⟨rfl, rfl⟩ := hz
    subst hnN
    have hM2 : M.length ≤ 60 := Nat.le_trans (few_edges hN HEQ.out (by omega) hm) hlen
    have HM : Hid (M.length ≤ 100000) := Lib.hid (by omega)
    have HE1 := Lib.hid (HE0.out.keep hb)
    have HN1 := Lib.hid hnt
    have HMM := Lib.hid hm
    have HGG := Lib.hid hG
    have HNN := Lib.hid hN
    clear hb HNew HE0 HEQ hG hnt hN hM hm
    go_wp2_with fail
    refine (HRe.out _ HE1.out.1.2).mono ?_
    rintro e w3 ⟨hb3, x3, q, c, M2, rfl, hr3, ⟨hno, -⟩ | ⟨-, hx, hm2⟩⟩
    · exact absurd rfl hno
    obtain rfl : M = M2 := Option.some.inj (HMM.out.symm.trans hm2)
    subst hx
    have hbA : Below w3.heap.size w3 (w3.alloc (.cells #[.int .i64 (N : Int), .slice q M.length c] 35)) := (Below.refl _ _).alloc (Nat.le_refl _) _
    have hbB := hb3.trans (hbA.mono hb3.size)
    have HE3 := Lib.hid (HE1.out.keep hbB)
    have HT4 : Hid (ParSt W w3.heap.size q c N M g0 X0 s t (w3.alloc (.cells #[.int .i64 (N : Int), .slice q M.length c] 35))) :=
      Lib.hid ⟨⟨HE3.out.1.1, TwoAt.new _ _ _ _, HN1.out.over hbB, hr3.over hbA (Nat.le_refl _)⟩, HE3.out.2⟩
    clear hb3 hbA hbB hr3 hm2 HN1 HRe HMM HE1 HE3
    go_upto_region 8 with fail
    generalize w3.alloc (.cells #[.int .i64 (N : Int), .slice q M.length c] 35) = w4 at *
    generalize w3.heap.size = X at *
    have HR1 := Lib.hid (fun w h => refPairU_any N q c M HM.out HGG.out.non HGG.out.2.2 s t w h)
    have HP1 := Lib.hid (fun w h ht => brPair_any (some ⟨g0, 0, none⟩) N M HNN.out HGG.out HM.out s t w h ht)
    have HP2 := Lib.hid (fun w h ht => brMatrix_any (some ⟨g0, 0, none⟩) N M HNN.out HGG.out HM.out w h ht)
    unfold GotO at HR1
    unfold SideC at HP1
    unfold RowsE at HP2
    have HSl : Hid ((prS N M s t).length ≤ 1000000000) := Lib.hid (by have := prS_len N M s t; omega)
    generalize prW N M s t = cw at *
    generalize prS N M s t = SL at *
    generalize prE N s t = K at *
    have bK : (K == K) = true := beq_self_eq_true _
    obtain ⟨s0, s1, -, -⟩ := HT4.out.2
    have sl := HT4.out.2.lt
    go_wp2_with fail
    refine (HP1.out _ HT4.out.1.2.2.1 (tab_on HTab.out (by first | exact Below.refl _ _ | exact HBc.out | exact HBc.out.1 | exact HBc.out.1.1 | exact HE0.out | exact HE0.out.1 | exact HE0.out.1.1 | exact HE1.out | exact HE1.out.1 | exact HE1.out.1.1 | exact HE2.out | exact HE2.out.1 | exact HE2.out.1.1 | exact HE3.out | exact HE3.out.1 | exact HE3.out.1.1 | exact HE4.out | exact HE4.out.1 | exact HE4.out.1.1 | exact HT4.out | exact HT4.out.1 | exact HT4.out.1.1 | exact HT6.out | exact HT6.out.1 | exact HT6.out.1.1 | exact HT8.out | exact HT8.out.1 | exact HT8.out.1.1 | exact HTa.out | exact HTa.out.1 | exact HTa.out.1.1 | exact HTb.out | exact HTb.out.1 | exact HTb.out.1.1 | exact HTc.out | exact HTc.out.1 | exact HTc.out.1.1 | exact HTd.out | exact HTd.out.1 | exact HTd.out.1.1 | exact HTe.out | exact HTe.out.1 | exact HTe.out.1.1) (Nat.le_refl _))).mono ?_
    rintro e w7 ⟨hb, q7, c7, rfl, hr⟩
    have hbA : Below w7.heap.size w7 (w7.alloc (.cells #[.int .i64 cw, .slice q7 SL.length c7] 31)) := (Below.refl _ _).alloc (Nat.le_refl _) _
    have hbB := hb.trans (hbA.mono hb.size)
    have HT8 := Lib.hid (HT4.out.keep hbB)
    have HC8 : Hid (CutAt w7.heap.size cw q7 c7 SL (w7.alloc (.cells #[.int .i64 cw, .slice q7 SL.length c7] 31))) := Lib.hid ⟨TwoAt.new _ _ _ _, hr.over hbA (Nat.le_refl _)⟩
    clear hb hbA hbB hr HT4 HP1 s0 s1 sl
    obtain ⟨d0, d1, -, -⟩ := HT8.out.1.2.1
    have dl := HT8.out.1.2.1.lt
    obtain ⟨s0, s1, -, -⟩ := HT8.out.2
    have sl := HT8.out.2.lt
    go_upto_region 9 with fail
    generalize w7.alloc (.cells #[.int .i64 cw, .slice q7 SL.length c7] 31) = w8 at *
    generalize w7.heap.size = Y at *
    go_wp2_with fail
    refine (HR1.out _ HT8.out.1.2.2.2).mono ?_
    rintro e w5 ⟨hb, q5, c5, rfl, hr⟩
    have hbA : Below w5.heap.size w5 (w5.alloc (.cells #[.int .i64 cw, .slice q5 SL.length c5, .int .i64 K] 40)) := (Below.refl _ _).alloc (Nat.le_refl _) _
    have hbB := hb.trans (hbA.mono hb.size)
    have HT6 := Lib.hid (HT8.out.keep hbB)
    have HC6 := Lib.hid (HC8.out.keep hbB)
    have HG6 : Hid (GotAt w5.heap.size cw q5 c5 SL K (w5.alloc (.cells #[.int .i64 cw, .slice q5 SL.length c5, .int .i64 K] 40))) := Lib.hid ⟨ThreeAt.new _ _ _ _ _, hr.over hbA (Nat.le_refl _)⟩
    clear hb hbA hbB hr HT8 HC8 HR1 d0 d1 dl s0 s1 sl
    go_wp2_with fail
    generalize w5.alloc (.cells #[.int .i64 cw, .slice q5 SL.length c5, .int .i64 K] 40) = w6 at *
    generalize w5.heap.size = Z at *
    refine (HP2.out _ HT6.out.1.2.2.1 (tab_on HTab.out (by first | exact Below.refl _ _ | exact HBc.out | exact HBc.out.1 | exact HBc.out.1.1 | exact HE0.out | exact HE0.out.1 | exact HE0.out.1.1 | exact HE1.out | exact HE1.out.1 | exact HE1.out.1.1 | exact HE2.out | exact HE2.out.1 | exact HE2.out.1.1 | exact HE3.out | exact HE3.out.1 | exact HE3.out.1.1 | exact HE4.out | exact HE4.out.1 | exact HE4.out.1.1 | exact HT4.out | exact HT4.out.1 | exact HT4.out.1.1 | exact HT6.out | exact HT6.out.1 | exact HT6.out.1.1 | exact HT8.out | exact HT8.out.1 | exact HT8.out.1.1 | exact HTa.out | exact HTa.out.1 | exact HTa.out.1.1 | exact HTb.out | exact HTb.out.1 | exact HTb.out.1.1 | exact HTc.out | exact HTc.out.1 | exact HTc.out.1.1 | exact HTd.out | exact HTd.out.1 | exact HTd.out.1.1 | exact HTe.out | exact HTe.out.1 | exact HTe.out.1.1) (Nat.le_refl _))).mono ?_
    rintro e wa ⟨hb, qa, ca, M0, rfl, hra⟩
    have HTa := Lib.hid (HT6.out.keep hb)
    have HGa := Lib.hid (HG6.out.keep hb)
    have HCa := Lib.hid (HC6.out.keep hb)
    have HAa : Hid (RowsTold qa (mxM N M) wa) := Lib.hid ⟨M0, hra⟩
    clear hb hra HT6 HG6 HC6 HP2
    obtain ⟨m0, m1, m2, -⟩ := HGa.out.1
    obtain ⟨o0, o1, -, -⟩ := HCa.out.1
    have ml := HGa.out.1.lt
    have ol := HCa.out.1.lt
    have he3 : mxE N = 0 := if_neg (by omega)
    have hm0 : mxM N M = mxL M N N := if_neg (by omega)
    have HMF := Lib.hid (mxL_few M (n := N) (by omega))
    have HR4 := Lib.hid (fun w h => (refMatrix_any N (by omega) q c M HM.out HGG.out.non HGG.out.2.2 w h).mono fun _ _ h => rows_told h)
    rw [he3, hm0]
    rw [hm0] at HAa
    have i9 : ¬ (N : Int) > 20 := by omega
    generalize mxL M N N = RL at *
    clear he3 hm0
    go_wp2_with fail
    refine (same_true cw q7 q5 c7 c5 SL HSl.out _ HCa.out.2 HGa.out.2).mono ?_
    rintro e wb ⟨rfl, hb⟩
    have HTb := Lib.hid (HTa.out.keep hb)
    have HAb := Lib.hid (HAa.out.keep hb)
    clear m0 m1 m2 ml o0 o1 ol
    clear hb HTa HAa
    obtain ⟨d0, d1, -, -⟩ := HTb.out.1.2.1
    have dl := HTb.out.1.2.1.lt
    go_wp2_with fail
    refine (HR4.out _ HTb.out.1.2.2.2).mono ?_
    rintro e wc ⟨hb, qd, cd, rfl, hrt⟩
    have HTc := Lib.hid (HTb.out.keep hb)
    have HAc := Lib.hid (HAb.out.keep hb)
    have HBc := Lib.hid hrt
    clear hrt d0 d1 dl
    clear hb HTb HAb
    go_wp2_with fail
    refine (rows_true qa qd ca cd RL _ HAc.out HBc.out HMF.out.1 HMF.out.2).mono ?_
    rintro e wd ⟨rfl, hb⟩
    have HTd := Lib.hid (HTc.out.keep hb)
    clear hb HTc
    go_wp2_with fail
    refine (awake_any _ (tab_on HTab.out (by first | exact Below.refl _ _ | exact HBc.out | exact HBc.out.1 | exact HBc.out.1.1 | exact HE0.out | exact HE0.out.1 | exact HE0.out.1.1 | exact HE1.out | exact HE1.out.1 | exact HE1.out.1.1 | exact HE2.out | exact HE2.out.1 | exact HE2.out.1.1 | exact HE3.out | exact HE3.out.1 | exact HE3.out.1.1 | exact HE4.out | exact HE4.out.1 | exact HE4.out.1.1 | exact HT4.out | exact HT4.out.1 | exact HT4.out.1.1 | exact HT6.out | exact HT6.out.1 | exact HT6.out.1.1 | exact HT8.out | exact HT8.out.1 | exact HT8.out.1.1 | exact HTa.out | exact HTa.out.1 | exact HTa.out.1.1 | exact HTb.out | exact HTb.out.1 | exact HTb.out.1.1 | exact HTc.out | exact HTc.out.1 | exact HTc.out.1.1 | exact HTd.out | exact HTd.out.1 | exact HTd.out.1.1 | exact HTe.out | exact HTe.out.1 | exact HTe.out.1.1) (Nat.le_refl _))).mono ?_
    rintro e we ⟨rfl, hb⟩
    have HTe := Lib.hid (HTd.out.keep hb)
    clear hb HTd
    go_wp2
    go_ret
    exact ⟨rfl, HTe.out.1.1⟩
theorem laidOut : laidOutB Tryd.prog = true := by kernel_rfl
set_option maxRecDepth 100000 in
theorem lifted (os : Os) (started : os.Started) (H : Type) (enc : TypeId × Value → H) :
    ReturnsInHanded {} Tryd.checked os 3 .any (fun w args => (Rows.brutePairsSpec.pre enc Tryd.prog Tryd.f3 [] false w args ∧ laidMetH Tryd.prog Rows.brutePairsRow.laid w) ∧ sizedMet enc Tryd.prog Tryd.f3 (OpenSpec.ofChange Rows.brutePairsSpec) false w args)
      (Rows.brutePairsSpec.post enc Tryd.prog Tryd.f3 false true false false) := by
  refine returnsInHanded_of_change_and (C := Tryd.checked) (X := fun w _ => laidMetH Tryd.prog Rows.brutePairsRow.laid w) (fun _ _ _ hh h => h.of_heap hh) own started (by kernel_rfl) Tryd.func3
    (ChangeSpec.witness_at (enc := enc) (C := Tryd.checked) (os := os) (X := fun w _ => laidMetH Tryd.prog Rows.brutePairsRow.laid w) false (laidWorld Tryd.prog os) #[.int .u8 0, .slice none 0 0, .agg #[.int .i64 0, .int .i64 0]] 8 rfl (by kernel_rfl) (by kernel_rfl) (by kernel_rfl) (by kernel_rfl) (by kernel_rfl) (laid_met os _)) ?_
  intro W base args ds gs before hval0 hW _ _ hL _
  have hval : ∀ (j : Nat) t v, Tryd.f3.params[j]? = some t → args[j]? = some v → Value.okWide Tryd.prog W .any base t v := hval0
  have hW' := hW
  obtain ⟨p, q, hA0, hV, rfl, hfz, hnd⟩ := hW
  have hA : DataW.TrodAll enc Tryd.prog W 0 (fun _ => true) true Tryd.f3.params.toList args.toList ds p := hA0
  rw [Tryd.params3] at hA hval
  obtain ⟨v0, vs0, d0, ds0, p0, q0, hargs, rfl, rfl, h0, r0⟩ := trodAll_cons hA
  obtain ⟨v1, vs1, d1, ds1, p1, q1, rfl, rfl, rfl, h1, r1⟩ := trodAll_cons r0
  obtain ⟨v2, vs2, d2, ds2, p2, q2, rfl, rfl, rfl, h2, r2⟩ := trodAll_cons r1
  obtain ⟨rfl, rfl, rfl⟩ := trodAll_nil r2
  obtain rfl : args = #[v0, v1, v2] := by cases args; simp_all
  obtain ⟨rfl, rfl⟩ := trodVars_none hV
  obtain ⟨a0, rfl, rfl, rfl, w0⟩ := open_int Tryd.underlying5 (hval 0 5 v0 rfl rfl) h0
  obtain ⟨a1, len1, cap1, rfl⟩ := okWide_slice Tryd.underlying22 (hval 1 22 v1 rfl rfl)
  have k1 := h1
  have lt1 : ∀ x ∈ p1, x.block < W.heap.size := by obtain ⟨m, hm⟩ := k1; exact DataW.trod_lt m _ _ _ hm
  obtain ⟨l1, hlen1, w1⟩ : ∃ l : List Ed, l.length = len1 ∧ EdIn W a1 l ∧ l.length ≤ maxLen := by
    obtain ⟨fuel, hf⟩ := h1
    exact open_edges hf
  subst hlen1
  have k2 := h2
  have lt2 : ∀ x ∈ p2, x.block < W.heap.size := by obtain ⟨m, hm⟩ := k2; exact DataW.trod_lt m _ _ _ hm
  obtain ⟨a2, rfl, w2⟩ := open_pairV (hval 2 23 v2 rfl rfl) h2
  clear hA0 hval0
  refine (walk_list a0 w0 a1 cap1 l1 a2 W w1.1 w1.2 w2 (tab_of_laid hL)).mono fun e W' ⟨he, bel⟩ => ?_
  subst he
  exact ⟨_, rfl, _, _, _, [], _, [], hW', trodAll_mk1 (shut_bool Tryd.underlying4 _), (trodAll_cons_mk (shut_int Tryd.underlying5 w0) (trodAll_cons_mk (Below.trod laidOut (by kernel_rfl) (of_decide_eq_true (by kernel_rfl)) k1 bel lt1) (trodAll_cons_mk (Below.trod laidOut (by kernel_rfl) (of_decide_eq_true (by kernel_rfl)) k2 bel lt2) trodAll_mk0))), rfl, bel.frame _, fun h => by cases h⟩
theorem over : Rows.brutePairsRow.holds Tryd.pinned (OpenSpec.ofChange Rows.brutePairsSpec) :=
  OpenClaim.holds_of_wide 3 Tryd.f3 rfl rfl rfl rfl rfl rfl rfl ⟨rfl, rfl, rfl, rfl, rfl⟩ rfl rfl rfl rfl rfl (by kernel_rfl) Tryd.func3 (by kernel_rfl)
    (of_decide_eq_true (by kernel_rfl)) (by unfold Func.isWrapper; first | (rw [if_pos (by decide +kernel)]; kernel_rfl) | (rw [if_neg (by decide +kernel)]; exact ⟨rfl, rfl⟩))
    (fun os started H enc _ => lifted os started H enc)
/-- The statement: the tied card. -/
theorem proved : Rows.BrutePairsCardSaid :=
  Claim7.holds_tied_plain_at .later [] [.data] true Rows.brutePairsCard.stood.harness Rows.brutePairsCard.stood.looks
    over (fun _ h => by cases h) (by kernel_rfl) (fun _ h => by cases h) brutePairs_row_tie rfl ⟨rfl, rfl⟩ (by kernel_rfl) rfl
    (fun f fn hf hfn => by
      obtain rfl : f = 3 := Option.some.inj ((show Tryd.prog.funcNamed Rows.brutePairsRow.func = some 3 by kernel_rfl).symm.trans hf) |>.symm
      obtain rfl : fn = Tryd.f3 := (Option.some.inj (Tryd.func3.symm.trans hfn)).symm
      exact ⟨by kernel_rfl, fun j t ht => by
        rw [Tryd.params3] at ht
        have hall : ∀ t ∈ #[5, 22, 23], Tryd.prog.wantsStandIn t = false := by decide +kernel
        exact hall t (Array.mem_of_getElem? ht)⟩)
    (by kernel_rfl)
#print axioms proved

end Go.Proofs.YtceejjgmepaonaaDoor.brutePairs
