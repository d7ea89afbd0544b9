/- The least cut of any small graph, how many there are, and all of any weight are what the document says; or there is none, and the program tells why. Conditions: none: every number of vertices up to 255, every slice of edges, every weight (of more than 60 edges, or ten to twenty vertices, the law asks only that the program goes through cuts at all). -/
import Derived.Test.YtceejjgmepaonaaGreatDoorPk32
import Derived.Test.YtceejjgmepaonaaGreatDoorPk35
import Derived.Test.YtceejjgmepaonaaGreatDoorPk34
import Derived.Test.YtceejjgmepaonaaGreatDoorChecked
import Derived.Test.YtceejjgmepaonaaGreatDoorRows
import Derived.Test.YtceejjgmepaonaaGreatDoorTie
import Derived.Test.YtceejjgmepaonaaGreatDoorCards
import Derived.SevenTiedAt
import Derived.ChangeSlices
import Derived.ProofKit
import Derived.OpenShut
import Derived.ChangeOld
import Derived.Below
import Derived.Carry
namespace Go.Proofs.YtceejjgmepaonaaGreatDoor.bruteLeast
open Go.ChangeShapes Go.WideShapes Go.ChangeAt Go.RowKit EdPure NtPure CutPure SdPure BrPure Cm Sd Br Bg
set_option maxRecDepth 100000 in
set_option maxHeartbeats 8000000 in
theorem walk_list (n : Int) (hn : (Lit.int .u8 n).wf = true) (a : Option Addr) (cap : Nat) (l : List Ed) (x : Int) (W : World) (h1 : EdIn W a l) (_h2 : l.length ≤ maxLen) (hT : Tab W) :
    Calls Tryz.prog 3 #[.int .u8 n, .slice a l.length cap, .int .i64 x] W fun r w' => r = .returned (.bool true) ∧ Below W.heap.size W w' := by
  obtain ⟨n0, n1⟩ : 0 ≤ n ∧ n ≤ 255 := bounds_u8 hn
  clear hn
  have HTab := Lib.hid hT
  clear hT
  have HE0 : Hid (InSt W a l W) := Lib.hid ⟨Below.refl _ _, h1.2⟩
  by_cases hlen : l.length ≤ 60
  case neg =>
    have i1 : (l.length : Int) > 60 := by omega
    go_enter Tryz.func3, Tryz.ntmps3
    go_wp2_with fail
    refine (awake_any _ (tab_on HTab.out (by first | exact Below.refl _ _ | exact HBd.out | exact HBd.out.1 | exact HBd.out.1.1 | exact HE0.out | exact HE0.out.1 | exact HE0.out.1.1 | exact HE1.out | exact HE1.out.1 | exact HE1.out.1.1 | exact HE2.out | exact HE2.out.1 | exact HE2.out.1.1 | exact HE4.out | exact HE4.out.1 | exact HE4.out.1.1 | exact HT4.out | exact HT4.out.1 | exact HT4.out.1.1 | exact HT6.out | exact HT6.out.1 | exact HT6.out.1.1 | exact HT8.out | exact HT8.out.1 | exact HT8.out.1.1 | exact HT9.out | exact HT9.out.1 | exact HT9.out.1.1 | exact HTa.out | exact HTa.out.1 | exact HTa.out.1.1 | exact HTb.out | exact HTb.out.1 | exact HTb.out.1.1 | exact HTc.out | exact HTc.out.1 | exact HTc.out.1.1 | exact HTd.out | exact HTd.out.1 | exact HTd.out.1.1 | exact HTe.out | exact HTe.out.1 | exact HTe.out.1.1 | exact HTf.out | exact HTf.out.1 | exact HTf.out.1.1) (Nat.le_refl _))).mono ?_
    rintro e w1 ⟨rfl, hb⟩
    have HE1 := Lib.hid (HE0.out.keep hb)
    clear hb HE0
    go_wp2
    go_ret
    exact ⟨rfl, HE1.out.1⟩
  have i1 : ¬ (l.length : Int) > 60 := by omega
  by_cases hmid : 9 < n ∧ n < 21
  · obtain ⟨i2, i3⟩ := hmid
    go_enter Tryz.func3, Tryz.ntmps3
    go_wp2_with fail
    refine (awake_any _ (tab_on HTab.out (by first | exact Below.refl _ _ | exact HBd.out | exact HBd.out.1 | exact HBd.out.1.1 | exact HE0.out | exact HE0.out.1 | exact HE0.out.1.1 | exact HE1.out | exact HE1.out.1 | exact HE1.out.1.1 | exact HE2.out | exact HE2.out.1 | exact HE2.out.1.1 | exact HE4.out | exact HE4.out.1 | exact HE4.out.1.1 | exact HT4.out | exact HT4.out.1 | exact HT4.out.1.1 | exact HT6.out | exact HT6.out.1 | exact HT6.out.1.1 | exact HT8.out | exact HT8.out.1 | exact HT8.out.1.1 | exact HT9.out | exact HT9.out.1 | exact HT9.out.1.1 | exact HTa.out | exact HTa.out.1 | exact HTa.out.1.1 | exact HTb.out | exact HTb.out.1 | exact HTb.out.1.1 | exact HTc.out | exact HTc.out.1 | exact HTc.out.1.1 | exact HTd.out | exact HTd.out.1 | exact HTd.out.1.1 | exact HTe.out | exact HTe.out.1 | exact HTe.out.1.1 | exact HTf.out | exact HTf.out.1 | exact HTf.out.1.1) (Nat.le_refl _))).mono ?_
    rintro e w1 ⟨rfl, hb⟩
    have HE1 := Lib.hid (HE0.out.keep hb)
    clear hb HE0
    go_wp2
    go_ret
    exact ⟨rfl, HE1.out.1⟩
  have HNew := Lib.hid (newU_any n a cap l h1.1 _ h1.2)
  have HRe := Lib.hid (fun w hR => refU_any n a cap l (by omega) h1.1 w hR)
  obtain ⟨e1, e2, he⟩ : ∃ e1 e2, errN n l = (e1, e2) := ⟨_, _, rfl⟩
  have HEQ := Lib.hid he
  unfold NewU Kind at HNew
  unfold RefU at HRe
  rw [he] at HNew HRe
  simp only at HNew HRe
  have HMID := Lib.hid hmid
  clear h1 he hmid
  have key : (9 < n ∧ ¬ n < 21) ∨ ¬ 9 < n := by have := HMID.out; omega
  go_enter Tryz.func3, Tryz.ntmps3
  rcases key with ⟨k1, k2⟩ | k1
  · go_wp2_with fail
    refine HNew.out.mono ?_
    rintro e w1 ⟨hb, p, N, M, rfl, hnt, ⟨hN, hM, hG⟩, ⟨hz, rfl, rfl, rfl⟩ | ⟨hz, ⟨g0, rfl⟩, hnN, hm⟩⟩
    · have t1 : (e1 != 0) = true := by simpa using hz
      have HE1 := Lib.hid (HE0.out.keep hb)
      have HL := Lib.hid (fun w ht => brLeast_any none 0 [] (by omega) (GoodN.nil _) (by simp) w (NetAt.nil w) ht)
      unfold SideC at HL
      rw [show smallE ((0 : Nat) : Int) = 9 from rfl, show lsW 0 [] = 0 from rfl, show lsS 0 [] = [] from rfl] at HL
      clear hnt hN hM hG HRe HNew hb hz HE0 HEQ
      go_wp2_with fail
      refine (HL.out _ (tab_on HTab.out (by first | exact Below.refl _ _ | exact HBd.out | exact HBd.out.1 | exact HBd.out.1.1 | exact HE0.out | exact HE0.out.1 | exact HE0.out.1.1 | exact HE1.out | exact HE1.out.1 | exact HE1.out.1.1 | exact HE2.out | exact HE2.out.1 | exact HE2.out.1.1 | exact HE4.out | exact HE4.out.1 | exact HE4.out.1.1 | exact HT4.out | exact HT4.out.1 | exact HT4.out.1.1 | exact HT6.out | exact HT6.out.1 | exact HT6.out.1.1 | exact HT8.out | exact HT8.out.1 | exact HT8.out.1.1 | exact HT9.out | exact HT9.out.1 | exact HT9.out.1.1 | exact HTa.out | exact HTa.out.1 | exact HTa.out.1.1 | exact HTb.out | exact HTb.out.1 | exact HTb.out.1.1 | exact HTc.out | exact HTc.out.1 | exact HTc.out.1.1 | exact HTd.out | exact HTd.out.1 | exact HTd.out.1.1 | exact HTe.out | exact HTe.out.1 | exact HTe.out.1.1 | exact HTf.out | exact HTf.out.1 | exact HTf.out.1.1) (Nat.le_refl _))).mono ?_
      rintro e w2 ⟨hb, q2, c2, rfl, -⟩
      have HE2 := Lib.hid (HE1.out.keep (hb.alloc hb.size (.cells #[.int .i64 0, .slice q2 0 c2] 30)))
      clear hb HE1 HL
      go_wp2_with fail
      generalize w2.alloc (.cells #[.int .i64 0, .slice q2 0 c2] 30) = w3 at *
      refine (awake_any _ (tab_on HTab.out (by first | exact Below.refl _ _ | exact HBd.out | exact HBd.out.1 | exact HBd.out.1.1 | exact HE0.out | exact HE0.out.1 | exact HE0.out.1.1 | exact HE1.out | exact HE1.out.1 | exact HE1.out.1.1 | exact HE2.out | exact HE2.out.1 | exact HE2.out.1.1 | exact HE4.out | exact HE4.out.1 | exact HE4.out.1.1 | exact HT4.out | exact HT4.out.1 | exact HT4.out.1.1 | exact HT6.out | exact HT6.out.1 | exact HT6.out.1.1 | exact HT8.out | exact HT8.out.1 | exact HT8.out.1.1 | exact HT9.out | exact HT9.out.1 | exact HT9.out.1.1 | exact HTa.out | exact HTa.out.1 | exact HTa.out.1.1 | exact HTb.out | exact HTb.out.1 | exact HTb.out.1.1 | exact HTc.out | exact HTc.out.1 | exact HTc.out.1.1 | exact HTd.out | exact HTd.out.1 | exact HTd.out.1.1 | exact HTe.out | exact HTe.out.1 | exact HTe.out.1.1 | exact HTf.out | exact HTf.out.1 | exact HTf.out.1.1) (Nat.le_refl _))).mono ?_
      rintro e w4 ⟨rfl, hb⟩
      have HE4 := Lib.hid (HE2.out.keep hb)
      clear hb
      go_wp2
      go_ret
      exact ⟨rfl, HE4.out.1⟩
    simp only [Prod.mk.injEq] at hz
    obtain ⟨rfl, rfl⟩ := hz
    subst hnN
    have hM2 : M.length ≤ 60 := Nat.le_trans (few_edges hN HEQ.out (by omega) hm) hlen
    have HM : Hid (M.length ≤ 100000) := Lib.hid (by omega)
    have HE1 := Lib.hid (HE0.out.keep hb)
    have HN1 := Lib.hid hnt
    have HMM := Lib.hid hm
    have HGG := Lib.hid hG
    have HNN := Lib.hid hN
    clear hb HNew HE0 HEQ hG hnt hN hM hm
    go_wp2_with fail
    refine (HRe.out _ HE1.out.2).mono ?_
    rintro e w3 ⟨hb3, x3, q, c, M2, rfl, hr3, ⟨hno, -⟩ | ⟨-, hx, hm2⟩⟩
    · exact absurd rfl hno
    obtain rfl : M = M2 := Option.some.inj (HMM.out.symm.trans hm2)
    subst hx
    have hbA : Below w3.heap.size w3 (w3.alloc (.cells #[.int .i64 (N : Int), .slice q M.length c] 34)) := (Below.refl _ _).alloc (Nat.le_refl _) _
    have hbB := hb3.trans (hbA.mono hb3.size)
    have HT4 : Hid (TellSt W w3.heap.size q c N M g0 (w3.alloc (.cells #[.int .i64 (N : Int), .slice q M.length c] 34))) :=
      Lib.hid ⟨HE1.out.1.trans (hbB.mono HE1.out.1.size), TwoAt.new _ _ _ _, HN1.out.over hbB, hr3.over hbA (Nat.le_refl _)⟩
    clear hb3 hbA hbB hr3 hm2 HN1 HRe HMM HE1
    go_wp2_with fail
    generalize w3.alloc (.cells #[.int .i64 (N : Int), .slice q M.length c] 34) = w4 at *
    generalize w3.heap.size = X at *
    have HR1 := Lib.hid (fun w h => refLeastU_any N q c M HM.out HGG.out.non HGG.out.2.2 w h)
    have HP1 := Lib.hid (fun w h ht => brLeast_any (some ⟨g0, 0, none⟩) N M HNN.out HGG.out HM.out w h ht)
    have HP2 := Lib.hid (fun w h ht => brCount_any (some ⟨g0, 0, none⟩) N M HNN.out HGG.out HM.out w h ht)
    have HP3 := Lib.hid (fun w h ht => brAll_any (some ⟨g0, 0, none⟩) N M HNN.out HGG.out HM.out x w h ht)
    unfold GotO at HR1
    unfold SideC at HP1
    unfold RowsE at HP3
    obtain ⟨cw, hcw⟩ : ∃ cw, lsW N M = cw := ⟨_, rfl⟩
    obtain ⟨SL, hSL⟩ : ∃ SL, lsS N M = SL := ⟨_, rfl⟩
    obtain ⟨kc, hkc⟩ : ∃ kc, lsC N M = kc := ⟨_, rfl⟩
    obtain ⟨AL, hAL⟩ : ∃ AL, lsA N M x = AL := ⟨_, rfl⟩
    obtain ⟨K, hK⟩ : ∃ K, smallE (N : Int) = K := ⟨_, rfl⟩
    rw [hcw, hSL, hK] at HR1 HP1
    rw [hkc, hK] at HP2
    rw [hAL, hK] at HP3
    have HQ := Lib.hid (And.intro hcw (And.intro hSL (And.intro hkc (And.intro hAL hK))))
    clear hcw hSL hkc hAL hK
    have bK2 : (K != K) = false := by simp
    obtain ⟨d0, d1, -, -⟩ := HT4.out.2.1
    go_wp2_with fail
    refine (HR1.out _ HT4.out.2.2.2).mono ?_
    rintro e w5 ⟨hb, q5, c5, rfl, hr⟩
    have hbA : Below w5.heap.size w5 (w5.alloc (.cells #[.int .i64 cw, .slice q5 SL.length c5, .int .i64 K] 39)) := (Below.refl _ _).alloc (Nat.le_refl _) _
    have hbB := hb.trans (hbA.mono hb.size)
    have HT6 := Lib.hid (HT4.out.keep hbB)
    have HG6 : Hid (GotAt w5.heap.size cw q5 c5 SL K (w5.alloc (.cells #[.int .i64 cw, .slice q5 SL.length c5, .int .i64 K] 39))) := Lib.hid ⟨ThreeAt.new _ _ _ _ _, hr.over hbA (Nat.le_refl _)⟩
    clear hb hbA hbB hr HT4 HR1 d0 d1
    go_wp2_with fail
    generalize w5.alloc (.cells #[.int .i64 cw, .slice q5 SL.length c5, .int .i64 K] 39) = w6 at *
    generalize w5.heap.size = Z at *
    refine (HP1.out _ HT6.out.2.2.1 (tab_on HTab.out (by first | exact Below.refl _ _ | exact HBd.out | exact HBd.out.1 | exact HBd.out.1.1 | exact HE0.out | exact HE0.out.1 | exact HE0.out.1.1 | exact HE1.out | exact HE1.out.1 | exact HE1.out.1.1 | exact HE2.out | exact HE2.out.1 | exact HE2.out.1.1 | exact HE4.out | exact HE4.out.1 | exact HE4.out.1.1 | exact HT4.out | exact HT4.out.1 | exact HT4.out.1.1 | exact HT6.out | exact HT6.out.1 | exact HT6.out.1.1 | exact HT8.out | exact HT8.out.1 | exact HT8.out.1.1 | exact HT9.out | exact HT9.out.1 | exact HT9.out.1.1 | exact HTa.out | exact HTa.out.1 | exact HTa.out.1.1 | exact HTb.out | exact HTb.out.1 | exact HTb.out.1.1 | exact HTc.out | exact HTc.out.1 | exact HTc.out.1.1 | exact HTd.out | exact HTd.out.1 | exact HTd.out.1.1 | exact HTe.out | exact HTe.out.1 | exact HTe.out.1.1 | exact HTf.out | exact HTf.out.1 | exact HTf.out.1.1) (Nat.le_refl _))).mono ?_
    rintro e w7 ⟨hb, q7, c7, rfl, hr⟩
    have hbA : Below w7.heap.size w7 (w7.alloc (.cells #[.int .i64 cw, .slice q7 SL.length c7] 30)) := (Below.refl _ _).alloc (Nat.le_refl _) _
    have hbB := hb.trans (hbA.mono hb.size)
    have HT8 := Lib.hid (HT6.out.keep hbB)
    have HG8 := Lib.hid (HG6.out.keep hbB)
    have HC8 : Hid (CutAt w7.heap.size cw q7 c7 SL (w7.alloc (.cells #[.int .i64 cw, .slice q7 SL.length c7] 30))) := Lib.hid ⟨TwoAt.new _ _ _ _, hr.over hbA (Nat.le_refl _)⟩
    clear hb hbA hbB hr HT6 HG6 HP1
    go_wp2_with fail
    generalize w7.alloc (.cells #[.int .i64 cw, .slice q7 SL.length c7] 30) = w8 at *
    generalize w7.heap.size = Y at *
    refine (HP2.out _ HT8.out.2.2.1 (tab_on HTab.out (by first | exact Below.refl _ _ | exact HBd.out | exact HBd.out.1 | exact HBd.out.1.1 | exact HE0.out | exact HE0.out.1 | exact HE0.out.1.1 | exact HE1.out | exact HE1.out.1 | exact HE1.out.1.1 | exact HE2.out | exact HE2.out.1 | exact HE2.out.1.1 | exact HE4.out | exact HE4.out.1 | exact HE4.out.1.1 | exact HT4.out | exact HT4.out.1 | exact HT4.out.1.1 | exact HT6.out | exact HT6.out.1 | exact HT6.out.1.1 | exact HT8.out | exact HT8.out.1 | exact HT8.out.1.1 | exact HT9.out | exact HT9.out.1 | exact HT9.out.1.1 | exact HTa.out | exact HTa.out.1 | exact HTa.out.1.1 | exact HTb.out | exact HTb.out.1 | exact HTb.out.1.1 | exact HTc.out | exact HTc.out.1 | exact HTc.out.1.1 | exact HTd.out | exact HTd.out.1 | exact HTd.out.1.1 | exact HTe.out | exact HTe.out.1 | exact HTe.out.1.1 | exact HTf.out | exact HTf.out.1 | exact HTf.out.1.1) (Nat.le_refl _))).mono ?_
    rintro e w9 ⟨rfl, hb⟩
    have HT9 := Lib.hid (HT8.out.keep hb)
    have HG9 := Lib.hid (HG8.out.keep hb)
    have HC9 := Lib.hid (HC8.out.keep hb)
    clear hb HT8 HG8 HC8 HP2
    go_wp2_with fail
    refine (HP3.out _ HT9.out.2.2.1 (tab_on HTab.out (by first | exact Below.refl _ _ | exact HBd.out | exact HBd.out.1 | exact HBd.out.1.1 | exact HE0.out | exact HE0.out.1 | exact HE0.out.1.1 | exact HE1.out | exact HE1.out.1 | exact HE1.out.1.1 | exact HE2.out | exact HE2.out.1 | exact HE2.out.1.1 | exact HE4.out | exact HE4.out.1 | exact HE4.out.1.1 | exact HT4.out | exact HT4.out.1 | exact HT4.out.1.1 | exact HT6.out | exact HT6.out.1 | exact HT6.out.1.1 | exact HT8.out | exact HT8.out.1 | exact HT8.out.1.1 | exact HT9.out | exact HT9.out.1 | exact HT9.out.1.1 | exact HTa.out | exact HTa.out.1 | exact HTa.out.1.1 | exact HTb.out | exact HTb.out.1 | exact HTb.out.1.1 | exact HTc.out | exact HTc.out.1 | exact HTc.out.1.1 | exact HTd.out | exact HTd.out.1 | exact HTd.out.1.1 | exact HTe.out | exact HTe.out.1 | exact HTe.out.1.1 | exact HTf.out | exact HTf.out.1 | exact HTf.out.1.1) (Nat.le_refl _))).mono ?_
    rintro e wa ⟨hb, qa, ca, M0, rfl, hra⟩
    have HTa := Lib.hid (HT9.out.keep hb)
    have HGa := Lib.hid (HG9.out.keep hb)
    have HCa := Lib.hid (HC9.out.keep hb)
    have HAa : Hid (RowsTold qa AL wa) := Lib.hid ⟨M0, hra⟩
    clear hb hra HT9 HG9 HC9 HP3
    obtain ⟨m0, m1, m2, -⟩ := HGa.out.1
    obtain ⟨o0, o1, -, -⟩ := HCa.out.1
    have ml := HGa.out.1.lt
    have ol := HCa.out.1.lt
    by_cases hk0 : K = 0
    · subst hk0
      obtain ⟨y1, y2, y3, y4, y5⟩ := HQ.out
      obtain ⟨h2, h20⟩ := small_zero.1 y5
      exfalso
      omega
    · have t2 : (K != 0) = true := by simpa using hk0
      obtain ⟨y1, y2, y3, y4, y5⟩ := HQ.out
      have hs0 : ¬ smallE (N : Int) = 0 := by rw [y5]; exact hk0
      unfold lsW at y1
      unfold lsS at y2
      unfold lsC at y3
      unfold lsA at y4
      rw [if_neg hs0] at y1 y2 y3 y4
      subst y1
      subst y2
      subst y3
      subst y4
      clear HQ y5 hs0 hk0
      go_wp2_with fail
      refine (awake_any _ (tab_on HTab.out (by first | exact Below.refl _ _ | exact HBd.out | exact HBd.out.1 | exact HBd.out.1.1 | exact HE0.out | exact HE0.out.1 | exact HE0.out.1.1 | exact HE1.out | exact HE1.out.1 | exact HE1.out.1.1 | exact HE2.out | exact HE2.out.1 | exact HE2.out.1.1 | exact HE4.out | exact HE4.out.1 | exact HE4.out.1.1 | exact HT4.out | exact HT4.out.1 | exact HT4.out.1.1 | exact HT6.out | exact HT6.out.1 | exact HT6.out.1.1 | exact HT8.out | exact HT8.out.1 | exact HT8.out.1.1 | exact HT9.out | exact HT9.out.1 | exact HT9.out.1.1 | exact HTa.out | exact HTa.out.1 | exact HTa.out.1.1 | exact HTb.out | exact HTb.out.1 | exact HTb.out.1.1 | exact HTc.out | exact HTc.out.1 | exact HTc.out.1.1 | exact HTd.out | exact HTd.out.1 | exact HTd.out.1.1 | exact HTe.out | exact HTe.out.1 | exact HTe.out.1.1 | exact HTf.out | exact HTf.out.1 | exact HTf.out.1.1) (Nat.le_refl _))).mono ?_
      rintro e wb ⟨rfl, hb⟩
      have HTb := Lib.hid (HTa.out.keep hb)
      clear hb HTa
      go_wp2
      go_ret
      exact ⟨rfl, HTb.out.1⟩
  · go_wp2_with fail
    refine HNew.out.mono ?_
    rintro e w1 ⟨hb, p, N, M, rfl, hnt, ⟨hN, hM, hG⟩, ⟨hz, rfl, rfl, rfl⟩ | ⟨hz, ⟨g0, rfl⟩, hnN, hm⟩⟩
    · have t1 : (e1 != 0) = true := by simpa using hz
      have HE1 := Lib.hid (HE0.out.keep hb)
      have HL := Lib.hid (fun w ht => brLeast_any none 0 [] (by omega) (GoodN.nil _) (by simp) w (NetAt.nil w) ht)
      unfold SideC at HL
      rw [show smallE ((0 : Nat) : Int) = 9 from rfl, show lsW 0 [] = 0 from rfl, show lsS 0 [] = [] from rfl] at HL
      clear hnt hN hM hG HRe HNew hb hz HE0 HEQ
      go_wp2_with fail
      refine (HL.out _ (tab_on HTab.out (by first | exact Below.refl _ _ | exact HBd.out | exact HBd.out.1 | exact HBd.out.1.1 | exact HE0.out | exact HE0.out.1 | exact HE0.out.1.1 | exact HE1.out | exact HE1.out.1 | exact HE1.out.1.1 | exact HE2.out | exact HE2.out.1 | exact HE2.out.1.1 | exact HE4.out | exact HE4.out.1 | exact HE4.out.1.1 | exact HT4.out | exact HT4.out.1 | exact HT4.out.1.1 | exact HT6.out | exact HT6.out.1 | exact HT6.out.1.1 | exact HT8.out | exact HT8.out.1 | exact HT8.out.1.1 | exact HT9.out | exact HT9.out.1 | exact HT9.out.1.1 | exact HTa.out | exact HTa.out.1 | exact HTa.out.1.1 | exact HTb.out | exact HTb.out.1 | exact HTb.out.1.1 | exact HTc.out | exact HTc.out.1 | exact HTc.out.1.1 | exact HTd.out | exact HTd.out.1 | exact HTd.out.1.1 | exact HTe.out | exact HTe.out.1 | exact HTe.out.1.1 | exact HTf.out | exact HTf.out.1 | exact HTf.out.1.1) (Nat.le_refl _))).mono ?_
      rintro e w2 ⟨hb, q2, c2, rfl, -⟩
      have HE2 := Lib.hid (HE1.out.keep (hb.alloc hb.size (.cells #[.int .i64 0, .slice q2 0 c2] 30)))
      clear hb HE1 HL
      go_wp2_with fail
      generalize w2.alloc (.cells #[.int .i64 0, .slice q2 0 c2] 30) = w3 at *
      refine (awake_any _ (tab_on HTab.out (by first | exact Below.refl _ _ | exact HBd.out | exact HBd.out.1 | exact HBd.out.1.1 | exact HE0.out | exact HE0.out.1 | exact HE0.out.1.1 | exact HE1.out | exact HE1.out.1 | exact HE1.out.1.1 | exact HE2.out | exact HE2.out.1 | exact HE2.out.1.1 | exact HE4.out | exact HE4.out.1 | exact HE4.out.1.1 | exact HT4.out | exact HT4.out.1 | exact HT4.out.1.1 | exact HT6.out | exact HT6.out.1 | exact HT6.out.1.1 | exact HT8.out | exact HT8.out.1 | exact HT8.out.1.1 | exact HT9.out | exact HT9.out.1 | exact HT9.out.1.1 | exact HTa.out | exact HTa.out.1 | exact HTa.out.1.1 | exact HTb.out | exact HTb.out.1 | exact HTb.out.1.1 | exact HTc.out | exact HTc.out.1 | exact HTc.out.1.1 | exact HTd.out | exact HTd.out.1 | exact HTd.out.1.1 | exact HTe.out | exact HTe.out.1 | exact HTe.out.1.1 | exact HTf.out | exact HTf.out.1 | exact HTf.out.1.1) (Nat.le_refl _))).mono ?_
      rintro e w4 ⟨rfl, hb⟩
      have HE4 := Lib.hid (HE2.out.keep hb)
      clear hb
      go_wp2
      go_ret
      exact ⟨rfl, HE4.out.1⟩
    simp only [Prod.mk.injEq] at hz
    obtain ⟨rfl, rfl⟩ := hz
    subst hnN
    have hM2 : M.length ≤ 60 := Nat.le_trans (few_edges hN HEQ.out (by omega) hm) hlen
    have HM : Hid (M.length ≤ 100000) := Lib.hid (by omega)
    have HE1 := Lib.hid (HE0.out.keep hb)
    have HN1 := Lib.hid hnt
    have HMM := Lib.hid hm
    have HGG := Lib.hid hG
    have HNN := Lib.hid hN
    clear hb HNew HE0 HEQ hG hnt hN hM hm
    go_wp2_with fail
    refine (HRe.out _ HE1.out.2).mono ?_
    rintro e w3 ⟨hb3, x3, q, c, M2, rfl, hr3, ⟨hno, -⟩ | ⟨-, hx, hm2⟩⟩
    · exact absurd rfl hno
    obtain rfl : M = M2 := Option.some.inj (HMM.out.symm.trans hm2)
    subst hx
    have hbA : Below w3.heap.size w3 (w3.alloc (.cells #[.int .i64 (N : Int), .slice q M.length c] 34)) := (Below.refl _ _).alloc (Nat.le_refl _) _
    have hbB := hb3.trans (hbA.mono hb3.size)
    have HT4 : Hid (TellSt W w3.heap.size q c N M g0 (w3.alloc (.cells #[.int .i64 (N : Int), .slice q M.length c] 34))) :=
      Lib.hid ⟨HE1.out.1.trans (hbB.mono HE1.out.1.size), TwoAt.new _ _ _ _, HN1.out.over hbB, hr3.over hbA (Nat.le_refl _)⟩
    clear hb3 hbA hbB hr3 hm2 HN1 HRe HMM HE1
    go_wp2_with fail
    generalize w3.alloc (.cells #[.int .i64 (N : Int), .slice q M.length c] 34) = w4 at *
    generalize w3.heap.size = X at *
    have HR1 := Lib.hid (fun w h => refLeastU_any N q c M HM.out HGG.out.non HGG.out.2.2 w h)
    have HP1 := Lib.hid (fun w h ht => brLeast_any (some ⟨g0, 0, none⟩) N M HNN.out HGG.out HM.out w h ht)
    have HP2 := Lib.hid (fun w h ht => brCount_any (some ⟨g0, 0, none⟩) N M HNN.out HGG.out HM.out w h ht)
    have HP3 := Lib.hid (fun w h ht => brAll_any (some ⟨g0, 0, none⟩) N M HNN.out HGG.out HM.out x w h ht)
    unfold GotO at HR1
    unfold SideC at HP1
    unfold RowsE at HP3
    obtain ⟨cw, hcw⟩ : ∃ cw, lsW N M = cw := ⟨_, rfl⟩
    obtain ⟨SL, hSL⟩ : ∃ SL, lsS N M = SL := ⟨_, rfl⟩
    obtain ⟨kc, hkc⟩ : ∃ kc, lsC N M = kc := ⟨_, rfl⟩
    obtain ⟨AL, hAL⟩ : ∃ AL, lsA N M x = AL := ⟨_, rfl⟩
    obtain ⟨K, hK⟩ : ∃ K, smallE (N : Int) = K := ⟨_, rfl⟩
    rw [hcw, hSL, hK] at HR1 HP1
    rw [hkc, hK] at HP2
    rw [hAL, hK] at HP3
    have HQ := Lib.hid (And.intro hcw (And.intro hSL (And.intro hkc (And.intro hAL hK))))
    clear hcw hSL hkc hAL hK
    have bK2 : (K != K) = false := by simp
    obtain ⟨d0, d1, -, -⟩ := HT4.out.2.1
    go_wp2_with fail
    refine (HR1.out _ HT4.out.2.2.2).mono ?_
    rintro e w5 ⟨hb, q5, c5, rfl, hr⟩
    have hbA : Below w5.heap.size w5 (w5.alloc (.cells #[.int .i64 cw, .slice q5 SL.length c5, .int .i64 K] 39)) := (Below.refl _ _).alloc (Nat.le_refl _) _
    have hbB := hb.trans (hbA.mono hb.size)
    have HT6 := Lib.hid (HT4.out.keep hbB)
    have HG6 : Hid (GotAt w5.heap.size cw q5 c5 SL K (w5.alloc (.cells #[.int .i64 cw, .slice q5 SL.length c5, .int .i64 K] 39))) := Lib.hid ⟨ThreeAt.new _ _ _ _ _, hr.over hbA (Nat.le_refl _)⟩
    clear hb hbA hbB hr HT4 HR1 d0 d1
    go_wp2_with fail
    generalize w5.alloc (.cells #[.int .i64 cw, .slice q5 SL.length c5, .int .i64 K] 39) = w6 at *
    generalize w5.heap.size = Z at *
    refine (HP1.out _ HT6.out.2.2.1 (tab_on HTab.out (by first | exact Below.refl _ _ | exact HBd.out | exact HBd.out.1 | exact HBd.out.1.1 | exact HE0.out | exact HE0.out.1 | exact HE0.out.1.1 | exact HE1.out | exact HE1.out.1 | exact HE1.out.1.1 | exact HE2.out | exact HE2.out.1 | exact HE2.out.1.1 | exact HE4.out | exact HE4.out.1 | exact HE4.out.1.1 | exact HT4.out | exact HT4.out.1 | exact HT4.out.1.1 | exact HT6.out | exact HT6.out.1 | exact HT6.out.1.1 | exact HT8.out | exact HT8.out.1 | exact HT8.out.1.1 | exact HT9.out | exact HT9.out.1 | exact HT9.out.1.1 | exact HTa.out | exact HTa.out.1 | exact HTa.out.1.1 | exact HTb.out | exact HTb.out.1 | exact HTb.out.1.1 | exact HTc.out | exact HTc.out.1 | exact HTc.out.1.1 | exact HTd.out | exact HTd.out.1 | exact HTd.out.1.1 | exact HTe.out | exact HTe.out.1 | exact HTe.out.1.1 | exact HTf.out | exact HTf.out.1 | exact HTf.out.1.1) (Nat.le_refl _))).mono ?_
    rintro e w7 ⟨hb, q7, c7, rfl, hr⟩
    have hbA : Below w7.heap.size w7 (w7.alloc (.cells #[.int .i64 cw, .slice q7 SL.length c7] 30)) := (Below.refl _ _).alloc (Nat.le_refl _) _
    have hbB := hb.trans (hbA.mono hb.size)
    have HT8 := Lib.hid (HT6.out.keep hbB)
    have HG8 := Lib.hid (HG6.out.keep hbB)
    have HC8 : Hid (CutAt w7.heap.size cw q7 c7 SL (w7.alloc (.cells #[.int .i64 cw, .slice q7 SL.length c7] 30))) := Lib.hid ⟨TwoAt.new _ _ _ _, hr.over hbA (Nat.le_refl _)⟩
    clear hb hbA hbB hr HT6 HG6 HP1
    go_wp2_with fail
    generalize w7.alloc (.cells #[.int .i64 cw, .slice q7 SL.length c7] 30) = w8 at *
    generalize w7.heap.size = Y at *
    refine (HP2.out _ HT8.out.2.2.1 (tab_on HTab.out (by first | exact Below.refl _ _ | exact HBd.out | exact HBd.out.1 | exact HBd.out.1.1 | exact HE0.out | exact HE0.out.1 | exact HE0.out.1.1 | exact HE1.out | exact HE1.out.1 | exact HE1.out.1.1 | exact HE2.out | exact HE2.out.1 | exact HE2.out.1.1 | exact HE4.out | exact HE4.out.1 | exact HE4.out.1.1 | exact HT4.out | exact HT4.out.1 | exact HT4.out.1.1 | exact HT6.out | exact HT6.out.1 | exact HT6.out.1.1 | exact HT8.out | exact HT8.out.1 | exact HT8.out.1.1 | exact HT9.out | exact HT9.out.1 | exact HT9.out.1.1 | exact HTa.out | exact HTa.out.1 | exact HTa.out.1.1 | exact HTb.out | exact HTb.out.1 | exact HTb.out.1.1 | exact HTc.out | exact HTc.out.1 | exact HTc.out.1.1 | exact HTd.out | exact HTd.out.1 | exact HTd.out.1.1 | exact HTe.out | exact HTe.out.1 | exact HTe.out.1.1 | exact HTf.out | exact HTf.out.1 | exact HTf.out.1.1) (Nat.le_refl _))).mono ?_
    rintro e w9 ⟨rfl, hb⟩
    have HT9 := Lib.hid (HT8.out.keep hb)
    have HG9 := Lib.hid (HG8.out.keep hb)
    have HC9 := Lib.hid (HC8.out.keep hb)
    clear hb HT8 HG8 HC8 HP2
    go_wp2_with fail
    refine (HP3.out _ HT9.out.2.2.1 (tab_on HTab.out (by first | exact Below.refl _ _ | exact HBd.out | exact HBd.out.1 | exact HBd.out.1.1 | exact HE0.out | exact HE0.out.1 | exact HE0.out.1.1 | exact HE1.out | exact HE1.out.1 | exact HE1.out.1.1 | exact HE2.out | exact HE2.out.1 | exact HE2.out.1.1 | exact HE4.out | exact HE4.out.1 | exact HE4.out.1.1 | exact HT4.out | exact HT4.out.1 | exact HT4.out.1.1 | exact HT6.out | exact HT6.out.1 | exact HT6.out.1.1 | exact HT8.out | exact HT8.out.1 | exact HT8.out.1.1 | exact HT9.out | exact HT9.out.1 | exact HT9.out.1.1 | exact HTa.out | exact HTa.out.1 | exact HTa.out.1.1 | exact HTb.out | exact HTb.out.1 | exact HTb.out.1.1 | exact HTc.out | exact HTc.out.1 | exact HTc.out.1.1 | exact HTd.out | exact HTd.out.1 | exact HTd.out.1.1 | exact HTe.out | exact HTe.out.1 | exact HTe.out.1.1 | exact HTf.out | exact HTf.out.1 | exact HTf.out.1.1) (Nat.le_refl _))).mono ?_
    rintro e wa ⟨hb, qa, ca, M0, rfl, hra⟩
    have HTa := Lib.hid (HT9.out.keep hb)
    have HGa := Lib.hid (HG9.out.keep hb)
    have HCa := Lib.hid (HC9.out.keep hb)
    have HAa : Hid (RowsTold qa AL wa) := Lib.hid ⟨M0, hra⟩
    clear hb hra HT9 HG9 HC9 HP3
    obtain ⟨m0, m1, m2, -⟩ := HGa.out.1
    obtain ⟨o0, o1, -, -⟩ := HCa.out.1
    have ml := HGa.out.1.lt
    have ol := HCa.out.1.lt
    by_cases hk0 : K = 0
    · subst hk0
      obtain ⟨y1, y2, y3, y4, y5⟩ := HQ.out
      obtain ⟨h2, h20⟩ := small_zero.1 y5
      unfold lsW at y1
      unfold lsS at y2
      unfold lsC at y3
      unfold lsA at y4
      rw [if_pos y5] at y1 y2 y3 y4
      rw [y1] at y3
      have HSl : Hid (SL.length ≤ 1000000000) := Lib.hid (by rw [← y2]; have := least_len h2 h20 M; omega)
      have HAl : Hid (AL.length ≤ 1000000 ∧ ∀ l ∈ AL, l.length ≤ 1000000) := Lib.hid (by rw [← y4]; exact pick_few h20 M x)
      have HR2 := Lib.hid (fun w h => (refAll_any N h2 h20 q c M HM.out HGG.out.non HGG.out.2.2 cw w h).mono fun _ _ h => rows_told h)
      have HR3 := Lib.hid (fun w h => (refAll_any N h2 h20 q c M HM.out HGG.out.non HGG.out.2.2 x w h).mono fun _ _ h => rows_told h)
      rw [y4] at HR3
      rw [y3] at HR2
      generalize pickW M cw (allS N) = BL at *
      clear y1 y2 y3 y4 y5 HQ
      obtain ⟨d0, d1, -, -⟩ := HTa.out.2.1
      have dl := HTa.out.2.1.lt
      go_wp2_with fail
      refine (same_true cw q7 q5 c7 c5 SL HSl.out _ HCa.out.2 HGa.out.2).mono ?_
      rintro e wb ⟨rfl, hb⟩
      have HTb := Lib.hid (HTa.out.keep hb)
      have HGb := Lib.hid (HGa.out.keep hb)
      have HCb := Lib.hid (HCa.out.keep hb)
      have HAb := Lib.hid (HAa.out.keep hb)
      clear d0 d1 dl m0 m1 m2 ml o0 o1 ol
      clear hb HTa HGa HCa HAa
      obtain ⟨d0, d1, -, -⟩ := HTb.out.2.1
      have dl := HTb.out.2.1.lt
      obtain ⟨m0, m1, m2, -⟩ := HGb.out.1
      have ml := HGb.out.1.lt
      go_wp2_with fail
      refine (HR2.out _ HTb.out.2.2.2).mono ?_
      rintro e wc ⟨hb, qb, cb, rfl, -⟩
      have HTc := Lib.hid (HTb.out.keep hb)
      have HGc := Lib.hid (HGb.out.keep hb)
      have HCc := Lib.hid (HCb.out.keep hb)
      have HAc := Lib.hid (HAb.out.keep hb)
      clear d0 d1 dl m0 m1 m2 ml
      clear hb HTb HGb HCb HAb
      obtain ⟨d0, d1, -, -⟩ := HTc.out.2.1
      have dl := HTc.out.2.1.lt
      have bkc : ((kc : Int) == (kc : Int)) = true := beq_self_eq_true _
      go_wp2_with fail
      refine (HR3.out _ HTc.out.2.2.2).mono ?_
      rintro e wd ⟨hb, qd, cd, rfl, hrt⟩
      have HTd := Lib.hid (HTc.out.keep hb)
      have HAd := Lib.hid (HAc.out.keep hb)
      have HBd := Lib.hid hrt
      clear hrt d0 d1 dl
      clear hb HTc HAc
      go_wp2_with fail
      refine (lists_same qa qd ca cd AL _ HAd.out HBd.out HAl.out.1 HAl.out.2).mono ?_
      rintro e we ⟨rfl, hb⟩
      have HTe := Lib.hid (HTd.out.keep hb)
      clear hb HTd
      go_wp2_with fail
      refine (awake_any _ (tab_on HTab.out (by first | exact Below.refl _ _ | exact HBd.out | exact HBd.out.1 | exact HBd.out.1.1 | exact HE0.out | exact HE0.out.1 | exact HE0.out.1.1 | exact HE1.out | exact HE1.out.1 | exact HE1.out.1.1 | exact HE2.out | exact HE2.out.1 | exact HE2.out.1.1 | exact HE4.out | exact HE4.out.1 | exact HE4.out.1.1 | exact HT4.out | exact HT4.out.1 | exact HT4.out.1.1 | exact HT6.out | exact HT6.out.1 | exact HT6.out.1.1 | exact HT8.out | exact HT8.out.1 | exact HT8.out.1.1 | exact HT9.out | exact HT9.out.1 | exact HT9.out.1.1 | exact HTa.out | exact HTa.out.1 | exact HTa.out.1.1 | exact HTb.out | exact HTb.out.1 | exact HTb.out.1.1 | exact HTc.out | exact HTc.out.1 | exact HTc.out.1.1 | exact HTd.out | exact HTd.out.1 | exact HTd.out.1.1 | exact HTe.out | exact HTe.out.1 | exact HTe.out.1.1 | exact HTf.out | exact HTf.out.1 | exact HTf.out.1.1) (Nat.le_refl _))).mono ?_
      rintro e wf ⟨rfl, hb⟩
      have HTf := Lib.hid (HTe.out.keep hb)
      clear hb HTe
      go_wp2
      go_ret
      exact ⟨rfl, HTf.out.1⟩
    · have t2 : (K != 0) = true := by simpa using hk0
      obtain ⟨y1, y2, y3, y4, y5⟩ := HQ.out
      have hs0 : ¬ smallE (N : Int) = 0 := by rw [y5]; exact hk0
      unfold lsW at y1
      unfold lsS at y2
      unfold lsC at y3
      unfold lsA at y4
      rw [if_neg hs0] at y1 y2 y3 y4
      subst y1
      subst y2
      subst y3
      subst y4
      clear HQ y5 hs0 hk0
      go_wp2_with fail
      refine (awake_any _ (tab_on HTab.out (by first | exact Below.refl _ _ | exact HBd.out | exact HBd.out.1 | exact HBd.out.1.1 | exact HE0.out | exact HE0.out.1 | exact HE0.out.1.1 | exact HE1.out | exact HE1.out.1 | exact HE1.out.1.1 | exact HE2.out | exact HE2.out.1 | exact HE2.out.1.1 | exact HE4.out | exact HE4.out.1 | exact HE4.out.1.1 | exact HT4.out | exact HT4.out.1 | exact HT4.out.1.1 | exact HT6.out | exact HT6.out.1 | exact HT6.out.1.1 | exact HT8.out | exact HT8.out.1 | exact HT8.out.1.1 | exact HT9.out | exact HT9.out.1 | exact HT9.out.1.1 | exact HTa.out | exact HTa.out.1 | exact HTa.out.1.1 | exact HTb.out | exact HTb.out.1 | exact HTb.out.1.1 | exact HTc.out | exact HTc.out.1 | exact HTc.out.1.1 | exact HTd.out | exact HTd.out.1 | exact HTd.out.1.1 | exact HTe.out | exact HTe.out.1 | exact HTe.out.1.1 | exact HTf.out | exact HTf.out.1 | exact HTf.out.1.1) (Nat.le_refl _))).mono ?_
      rintro e wb ⟨rfl, hb⟩
      have HTb := Lib.hid (HTa.out.keep hb)
      clear hb HTa
      go_wp2
      go_ret
      exact ⟨rfl, HTb.out.1⟩
theorem laidOut : laidOutB Tryz.prog = true := by kernel_rfl
set_option maxRecDepth 100000 in
theorem lifted (os : Os) (started : os.Started) (H : Type) (enc : TypeId × Value → H) :
    ReturnsInHanded {} Tryz.checked os 3 .any (fun w args => (Rows.bruteLeastSpec.pre enc Tryz.prog Tryz.f3 [] false w args ∧ laidMetH Tryz.prog Rows.bruteLeastRow.laid w) ∧ sizedMet enc Tryz.prog Tryz.f3 (OpenSpec.ofChange Rows.bruteLeastSpec) false w args)
      (Rows.bruteLeastSpec.post enc Tryz.prog Tryz.f3 false true false false) := by
  refine returnsInHanded_of_change_and (C := Tryz.checked) (X := fun w _ => laidMetH Tryz.prog Rows.bruteLeastRow.laid w) (fun _ _ _ hh h => h.of_heap hh) own started (by kernel_rfl) Tryz.func3
    (ChangeSpec.witness_at (enc := enc) (C := Tryz.checked) (os := os) (X := fun w _ => laidMetH Tryz.prog Rows.bruteLeastRow.laid w) false (laidWorld Tryz.prog os) #[.int .u8 0, .slice none 0 0, .int .i64 0] 8 rfl (by kernel_rfl) (by kernel_rfl) (by kernel_rfl) (by kernel_rfl) (by kernel_rfl) (laid_met os _)) ?_
  intro W base args ds gs before hval0 hW _ _ hL _
  have hval : ∀ (j : Nat) t v, Tryz.f3.params[j]? = some t → args[j]? = some v → Value.okWide Tryz.prog W .any base t v := hval0
  have hW' := hW
  obtain ⟨p, q, hA0, hV, rfl, hfz, hnd⟩ := hW
  have hA : DataW.TrodAll enc Tryz.prog W 0 (fun _ => true) true Tryz.f3.params.toList args.toList ds p := hA0
  rw [Tryz.params3] at hA hval
  obtain ⟨v0, vs0, d0, ds0, p0, q0, hargs, rfl, rfl, h0, r0⟩ := trodAll_cons hA
  obtain ⟨v1, vs1, d1, ds1, p1, q1, rfl, rfl, rfl, h1, r1⟩ := trodAll_cons r0
  obtain ⟨v2, vs2, d2, ds2, p2, q2, rfl, rfl, rfl, h2, r2⟩ := trodAll_cons r1
  obtain ⟨rfl, rfl, rfl⟩ := trodAll_nil r2
  obtain rfl : args = #[v0, v1, v2] := by cases args; simp_all
  obtain ⟨rfl, rfl⟩ := trodVars_none hV
  obtain ⟨a0, rfl, rfl, rfl, w0⟩ := open_int Tryz.underlying5 (hval 0 5 v0 rfl rfl) h0
  obtain ⟨a1, len1, cap1, rfl⟩ := okWide_slice Tryz.underlying22 (hval 1 22 v1 rfl rfl)
  have k1 := h1
  have lt1 : ∀ x ∈ p1, x.block < W.heap.size := by obtain ⟨m, hm⟩ := k1; exact DataW.trod_lt m _ _ _ hm
  obtain ⟨l1, hlen1, w1⟩ : ∃ l : List Ed, l.length = len1 ∧ EdIn W a1 l ∧ l.length ≤ maxLen := by
    obtain ⟨fuel, hf⟩ := h1
    exact open_edges hf
  subst hlen1
  obtain ⟨a2, rfl, rfl, rfl, w2⟩ := open_int Tryz.underlying2 (hval 2 2 v2 rfl rfl) h2
  clear hA0 hval0
  refine (walk_list a0 w0 a1 cap1 l1 a2 W w1.1 w1.2 (tab_of_laid hL)).mono fun e W' ⟨he, bel⟩ => ?_
  subst he
  exact ⟨_, rfl, _, _, _, [], _, [], hW', trodAll_mk1 (shut_bool Tryz.underlying4 _), (trodAll_cons_mk (shut_int Tryz.underlying5 w0) (trodAll_cons_mk (Below.trod laidOut (by kernel_rfl) (of_decide_eq_true (by kernel_rfl)) k1 bel lt1) (trodAll_cons_mk (shut_int Tryz.underlying2 w2) trodAll_mk0))), rfl, bel.frame _, fun h => by cases h⟩
theorem over : Rows.bruteLeastRow.holds Tryz.pinned (OpenSpec.ofChange Rows.bruteLeastSpec) :=
  OpenClaim.holds_of_wide 3 Tryz.f3 rfl rfl rfl rfl rfl rfl rfl ⟨rfl, rfl, rfl, rfl, rfl⟩ rfl rfl rfl rfl rfl (by kernel_rfl) Tryz.func3 (by kernel_rfl)
    (of_decide_eq_true (by kernel_rfl)) (by unfold Func.isWrapper; first | (rw [if_pos (by decide +kernel)]; kernel_rfl) | (rw [if_neg (by decide +kernel)]; exact ⟨rfl, rfl⟩))
    (fun os started H enc _ => lifted os started H enc)
/-- The statement: the tied card. -/
theorem proved : Rows.BruteLeastCardSaid :=
  Claim7.holds_tied_plain_at .later [] [.data] true Rows.bruteLeastCard.stood.harness Rows.bruteLeastCard.stood.looks
    over (fun _ h => by cases h) (by kernel_rfl) (fun _ h => by cases h) bruteLeast_row_tie rfl ⟨rfl, rfl⟩ (by kernel_rfl) rfl
    (fun f fn hf hfn => by
      obtain rfl : f = 3 := Option.some.inj ((show Tryz.prog.funcNamed Rows.bruteLeastRow.func = some 3 by kernel_rfl).symm.trans hf) |>.symm
      obtain rfl : fn = Tryz.f3 := (Option.some.inj (Tryz.func3.symm.trans hfn)).symm
      exact ⟨by kernel_rfl, fun j t ht => by
        rw [Tryz.params3] at ht
        have hall : ∀ t ∈ #[5, 22, 2], Tryz.prog.wantsStandIn t = false := by decide +kernel
        exact hall t (Array.mem_of_getElem? ht)⟩)
    (by kernel_rfl)
#print axioms proved

end Go.Proofs.YtceejjgmepaonaaGreatDoor.bruteLeast
