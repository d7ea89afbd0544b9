/- The graph of any vertices and edges, or why and where there is none: what it tells of any two vertices is what the document's graph tells. Conditions: none: every number of vertices, every slice of edges, every two numbers (of more than a hundred edges the law asks only that the program makes graphs at all). -/
import Derived.Test.YtibjpoadpciiaaaNtLaw
import Derived.Test.YtibjpoadpciiaaaNtRef2
import Derived.Test.YtibjpoadpciiaaaEdOpen
import Derived.Test.YtibjpoadpciiaaaPairV
import Derived.Test.YtibjpoadpciiaaaChecked
import Derived.Test.YtibjpoadpciiaaaRows
import Derived.ChangeSlices
import Derived.ProofKit
import Derived.OpenShut
import Derived.ChangeOld
import Derived.Below
import Derived.Carry
import Derived.Deep.RegionHeld3
import Derived.Deep.Cut
import Derived.Deep.CutRange
namespace Go.Proofs.Ytibjpoadpciiaaa.netTells
open Go.ChangeShapes Go.WideShapes Go.ChangeAt Go.RowKit EdPure NtPure NumPure
/-- What stays, beside what was made. -/
def BaseSt (W : World) (NB : Nat) (u v : Int) (a : Option Addr) (l : List Ed) (w : World) : Prop := Below W.heap.size W w ∧ TwoAt NB w (.int .i64 u) (.int .i64 v) ∧ ReadsE w.heap.size w a l
theorem BaseSt.keep {W w w' : World} {NB : Nat} {u v : Int} {a : Option Addr} {l : List Ed} (h : BaseSt W NB u v a l w) (hb : Below w.heap.size w w') : BaseSt W NB u v a l w' :=
  ⟨h.1.trans (hb.mono h.1.size), h.2.1.on hb h.2.1.lt, h.2.2.over hb (Nat.le_refl _)⟩
/-- Both graphs. -/
def TwoSt (W : World) (NB : Nat) (u v : Int) (p : Option Addr) (N : Nat) (M : List Ed) (X : Nat) (x : Int) (q : Option Addr) (c : Nat) (A : List Ed) (e1 e2 : Int) (w : World) : Prop :=
  Below W.heap.size W w ∧ TwoAt NB w (.int .i64 u) (.int .i64 v) ∧ NetAt p N M w ∧ QuadAt X w (.int .i64 x) (.slice q A.length c) (.int .i64 e1) (.int .i64 e2) ∧ ReadsE w.heap.size w q A
theorem TwoSt.keep {W w w' : World} {NB : Nat} {u v : Int} {p : Option Addr} {N : Nat} {M : List Ed} {X : Nat} {x : Int} {q : Option Addr} {c : Nat} {A : List Ed} {e1 e2 : Int} (h : TwoSt W NB u v p N M X x q c A e1 e2 w) (hb : Below w.heap.size w w') : TwoSt W NB u v p N M X x q c A e1 e2 w' :=
  ⟨h.1.trans (hb.mono h.1.size), h.2.1.on hb h.2.1.lt, h.2.2.1.over hb, h.2.2.2.1.on hb h.2.2.2.1.lt, h.2.2.2.2.over hb (Nat.le_refl _)⟩
set_option maxRecDepth 100000 in
set_option maxHeartbeats 4000000 in
theorem walk_list (n : Int) (a : Option Addr) (ca : Nat) (l : List Ed) (x : Int × Int) (W : World) (h1 : EdIn W a l) (_h2 : l.length ≤ maxLen) (_hx : (-9223372036854775808 ≤ x.1 ∧ x.1 ≤ 9223372036854775807) ∧ -9223372036854775808 ≤ x.2 ∧ x.2 ≤ 9223372036854775807) :
    Calls Try.prog 3 #[.int .i64 n, .slice a l.length ca, .agg #[.int .i64 x.1, .int .i64 x.2]] W fun r w' => r = .returned (.bool true) ∧ Below W.heap.size W w' := by
  obtain ⟨u, v⟩ := x
  simp only
  have HB0 : Hid (Below W.heap.size W (W.alloc (.cells #[.int .i64 u, .int .i64 v] 23))) := Lib.hid ((Below.refl _ _).alloc (Nat.le_refl _) _)
  by_cases hlen : l.length ≤ 100
  · have i1 : ¬ (l.length : Int) > 100 := by omega
    have HI := Lib.hid h1.1
    have HS0 : Hid (BaseSt W W.heap.size u v a l (W.alloc (.cells #[.int .i64 u, .int .i64 v] 23))) := Lib.hid ⟨HB0.out, TwoAt.new _ _ _ _, h1.2.over HB0.out (Nat.le_refl _)⟩
    clear h1 HB0
    go_enter Try.func3, Try.ntmps3
    go_upto_region 3 with fail
    generalize W.alloc (.cells #[.int .i64 u, .int .i64 v] 23) = w0 at *
    generalize W.heap.size = NB at *
    go_wp2_with fail
    refine (newU_any n a ca l HI.out w0 HS0.out.2.2).mono ?_
    rintro e w1 ⟨hb1, p, N, M, rfl, hp1, hg, hk⟩
    have HS1 := Lib.hid (HS0.out.keep hb1)
    have HP1 := Lib.hid hp1
    have HK := Lib.hid (And.intro hg hk)
    clear hb1 hp1 hg hk HS0
    go_wp2_with fail
    refine (refU_any n a ca l (by omega) HI.out w1 HS1.out.2.2).mono ?_
    rintro e w2 ⟨hb2, x, q, c, A, rfl, hr, hrk⟩
    have hb3 : Below w1.heap.size w1 (w2.alloc (.cells #[.int .i64 x, .slice q A.length c, .int .i64 (errN n l).1, .int .i64 (errN n l).2] 32)) := hb2.alloc hb2.size _
    have HT : Hid (TwoSt W NB u v p N M w2.heap.size x q c A (errN n l).1 (errN n l).2 (w2.alloc (.cells #[.int .i64 x, .slice q A.length c, .int .i64 (errN n l).1, .int .i64 (errN n l).2] 32))) :=
      Lib.hid ⟨(HS1.out.keep hb3).1, (HS1.out.keep hb3).2.1, HP1.out.over hb3, QuadAt.new _ _ _ _ _ _, hr.over ((Below.refl _ _).alloc (Nat.le_refl _) _) (Nat.le_refl _)⟩
    have HRK := Lib.hid hrk
    clear hb2 hb3 hr hrk HS1 HP1
    go_upto_region 5 with fail
    generalize w2.alloc (.cells #[.int .i64 x, .slice q A.length c, .int .i64 (errN n l).1, .int .i64 (errN n l).2] 32) = W0 at *
    generalize w2.heap.size = X at *
    obtain ⟨⟨c0, c1, c2, c3⟩, -⟩ := HT.out.2.2.2.1.cells
    have xl := HT.out.2.2.2.1.lt
    obtain ⟨⟨hN, hM1, hg⟩, hk⟩ := HK.out
    have HG := Lib.hid hg
    have s1 : ((errN n l).1 != (errN n l).1) = false := bne_self_eq_false _
    have s2 : ((errN n l).2 != (errN n l).2) = false := bne_self_eq_false _
    clear hg HK
    rcases hk with ⟨he, rfl, rfl, rfl⟩ | ⟨he, ⟨g, rfl⟩, rfl, hm⟩
    · have t1 : ((errN n l).1 != 0) = true := by simpa using he
      have t2 : ((errN n l).1 == 0) = false := by simpa using he
      clear he
      go_wp2_with (first | (go_at_call 6; refine (awake_any _).mono ?_; rintro e w4 ⟨rfl, hb4⟩; have HB4 := Lib.hid (HT.out.1.trans (hb4.mono HT.out.1.size)); clear hb4))
      go_ret
      exact ⟨rfl, HB4.out⟩
    · have t1 : ((errN (N : Int) l).1 != 0) = false := by rw [he]; rfl
      have t2 : ((errN (N : Int) l).1 == 0) = true := by rw [he]; rfl
      obtain ⟨rfl, rfl⟩ : x = (N : Int) ∧ M = A := by
        rcases HRK.out with ⟨h, -, -⟩ | ⟨-, h1, h2⟩
        · rw [he] at h; exact absurd rfl h
        · exact ⟨h1, Option.some.inj (hm.symm.trans h2)⟩
      clear he hm HRK
      obtain ⟨d0, d1, -, -⟩ := HT.out.2.1
      have dl := HT.out.2.1.lt
      go_upto_region 9 with fail
      go_quiet (fail)
      have HT1 := Lib.hid (HT.out.keep (below_drewN (Below.refl _ _) nq))
      clear HT c0 c1 c2 c3 d0 d1 dl xl s1 s2 t2
      generalize W0.drewN nq = V0 at *
      obtain ⟨f0, f1, f2, hf⟩ : ∃ f0 f1 f2, atE M u = (f0, f1, f2) := ⟨_, _, _, rfl⟩
      obtain ⟨bi, hbi⟩ : ∃ bi, inE M u = bi := ⟨_, rfl⟩
      have HFI := Lib.hid (And.intro hf hbi)
      go_wp2_with fail
      refine (edge_any _ N M u V0 HT1.out.2.2.1).mono ?_
      rw [hf, hbi]
      rintro e w3 ⟨rfl, hb3⟩
      unfold encE
      simp only
      have hb4 : Below V0.heap.size V0 (w3.alloc (.cells #[.int .i64 f0, .int .i64 f1, .int .i64 f2] 35)) := hb3.alloc hb3.size _
      have HT2 := Lib.hid (HT1.out.keep hb4)
      have HF2 := Lib.hid (ThreeAt.new w3 (.int .i64 f0) (.int .i64 f1) (.int .i64 f2) 35)
      clear hb3 hb4 HT1 hf hbi
      go_upto_region 11 with fail
      generalize w3.alloc (.cells #[.int .i64 f0, .int .i64 f1, .int .i64 f2] 35) = V1 at *
      generalize w3.heap.size = F at *
      obtain ⟨⟨c0, c1, c2, c3⟩, -⟩ := HT2.out.2.2.2.1.cells
      have xl := HT2.out.2.2.2.1.lt
      obtain ⟨g0, g1, g2, -, -, -⟩ := HF2.out
      have fl := HF2.out.lt
      go_cut [15] from 60 to 69 (fun vi wx => vi = .bool bi ∧ wx = V1)
      case first =>
        by_cases h0 : 0 ≤ u
        · by_cases h1 : u < M.length
          · have hbt : bi = true := by rw [← HFI.out.2]; exact decide_eq_true ⟨h0, h1⟩
            subst hbt
            go_wp2_with fail
            go_meet
            case rel => exact ⟨rfl, rfl⟩
          · have hbt : bi = false := by rw [← HFI.out.2]; exact decide_eq_false (fun h => h1 h.2)
            subst hbt
            go_wp2_with fail
            go_meet
            case rel => exact ⟨rfl, rfl⟩
        · have hbt : bi = false := by rw [← HFI.out.2]; exact decide_eq_false (fun h => h0 h.1)
          subst hbt
          go_wp2_with fail
          go_meet
          case rel => exact ⟨rfl, rfl⟩
      case rest =>
        obtain ⟨rfl, rfl⟩ := hcut
        go_upto_region 12 with fail
        go_cut [94] from 70 to 93 (fun v9 wx => v9 = .bool false ∧ ∃ mm, wx = wc.drewN mm)
        case first =>
          cases bi with
          | true =>
            obtain ⟨h0, h1⟩ : 0 ≤ u ∧ u < M.length := of_decide_eq_true HFI.out.2
            obtain ⟨kk, rfl⟩ : ∃ kk : Nat, u = kk := ⟨u.toNat, by omega⟩
            have hk : kk < M.length := by omega
            have he : M[kk] = (f0, f1, f2) := by
              rw [← HFI.out.1]
              unfold atE
              rw [dif_pos ⟨h0, h1⟩]
              rfl
            obtain ⟨b, off, rfl, hbw, hbr, m0, m1, m2⟩ := HT2.out.2.2.2.2.cells hk (Below.refl _ _) he
            clear he hk hbw HFI
            go_quiet (fail)
            go_wp2_with fail
            go_meet
            case rel => exact ⟨rfl, nq, rfl⟩
          | false =>
            have he : ((0 : Int), (0 : Int), (0 : Int)) = (f0, f1, f2) := by
              rw [← HFI.out.1]
              unfold atE
              rw [dif_neg (of_decide_eq_false HFI.out.2)]
            simp only [Prod.mk.injEq] at he
            obtain ⟨rfl, rfl, rfl⟩ := he
            clear HFI
            go_quiet (fail)
            go_wp2_with fail
            go_meet
            case rel => exact ⟨rfl, nq, rfl⟩
        case rest =>
          obtain ⟨rfl, mm, rfl⟩ := hcut
          have HE0 := Lib.hid (HT2.out.keep (below_drewN (Below.refl _ _) mm))
          clear HT2 HF2 HFI c0 c1 c2 c3 xl g0 g1 g2 fl
          go_wp2_with fail
          generalize World.drewN wc mm = y0 at *
          have hM0 := M.length
          have HE1 : Hid (TwoSt W NB u v (some ⟨g, 0, none⟩) N M X N q c M (errN N l).1 (errN N l).2 y0.drew) := Lib.hid (HE0.out.keep ⟨rfl, rfl, rfl, Nat.le_refl _, fun _ _ => rfl⟩)
          clear HE0
          have b1 : ((N : Int) == (N : Int)) = true := beq_self_eq_true _
          have b2 : ((M.length : Int) == (M.length : Int)) = true := beq_self_eq_true _
          obtain ⟨wt, hwt⟩ : ∃ wt, weiE M u v = wt := ⟨_, rfl⟩
          obtain ⟨dg, hdg⟩ : ∃ dg, degE M u = dg := ⟨_, rfl⟩
          obtain ⟨L, hL⟩ : ∃ L, nearE M u = L := ⟨_, rfl⟩
          obtain ⟨tot, htot⟩ : ∃ tot, allW M = tot := ⟨_, rfl⟩
          have HQ := Lib.hid (And.intro hwt (And.intro hdg (And.intro hL htot)))
          have HLl : Hid (L.length ≤ 1048576) := Lib.hid (by rw [← hL]; exact Nat.le_trans (near_len M u) hM1)
          have HDV : Hid (degV N M u = dg) := Lib.hid ((degV_eq HG.out u).trans hdg)
          have HNV : Hid (nearV N M u = L) := Lib.hid ((nearV_eq HG.out u).trans hL)
          have b3 : (wt == wt) = true := beq_self_eq_true _
          have b4 : (dg == dg) = true := beq_self_eq_true _
          have b5 : (tot == tot) = true := beq_self_eq_true _
          clear hwt hdg hL htot hM0
          have hY := HE1.out.2.2.2.1.cells.1
          refine wp_region_held_drew (S := fun W' => W'.cell? ⟨X, 0, none⟩ = some (.int .i64 (N : Int)) ∧ W'.cell? ⟨X, 1, none⟩ = some (.slice q M.length c) ∧ W'.cell? ⟨X, 2, none⟩ = some (.int .i64 (errN (N : Int) l).1) ∧ W'.cell? ⟨X, 3, none⟩ = some (.int .i64 (errN (N : Int) l).2)) (by kernel_rfl) hY (fun hHeld => ?_)
          refine wpAnyH_take (i := 0) (v := ?vr0) rfl (by kernel_rfl) (by kernel_rfl) (by kernel_rfl) (fun _ _ _ h => h) (Or.inl ⟨by kernel_rfl, fun w' hSw => ?hyr0⟩) (by assumption) ?restr0
          case hyr0 => ((try dsimp only at hSw); go_simp; (try with_reducible rfl))
          simp only [Act.put]
          refine wpAnyH_take (i := 2) (v := ?vr2) rfl (by kernel_rfl) (by kernel_rfl) (by kernel_rfl) (fun _ _ _ h => h) (Or.inl ⟨by kernel_rfl, fun w' hSw => ?hyr2⟩) (by assumption) ?restr2
          case hyr2 => ((try dsimp only at hSw); go_simp; (try with_reducible rfl))
          simp only [Act.put]
          refine wpAnyH_ready (rs := [1]) (by kernel_rfl) (by simp) ?_
          refine AllReadyH.cons rfl (fun K hK => ?_) AllReadyH.nil
          go_simp
          refine (num_any (some ⟨g, 0, none⟩) N M _ HE1.out.2.2.1).mono ?_
          rintro e y1 ⟨rfl, hb1⟩
          have HE2 := Lib.hid (HE1.out.keep hb1)
          clear hb1 HE1
          go_wp2_with fail
          refine hK.out _ _ ?hSr1 (fun hHeld => ?restr1)
          case hSr1 => exact HE2.out.2.2.2.1.cells.1
          clear hK K
          refine wpAnyH_take (i := 3) (v := ?vr3) rfl (by kernel_rfl) (by kernel_rfl) (by kernel_rfl) (fun _ _ _ h => h) (Or.inl ⟨by kernel_rfl, fun w' hSw => ?hyr3⟩) (by assumption) ?restr3
          case hyr3 => ((try dsimp only at hSw); go_simp; (try with_reducible rfl))
          simp only [Act.put]
          refine wpAnyH_take (i := 4) (v := ?vr4) rfl (by kernel_rfl) (by kernel_rfl) (by kernel_rfl) (fun _ _ _ h => h) (Or.inl ⟨by kernel_rfl, fun w' hSw => ?hyr4⟩) (by assumption) ?restr4
          case hyr4 => ((try dsimp only at hSw); go_simp; (try with_reducible rfl))
          simp only [Act.put]
          refine wpAnyH_take (i := 5) (v := ?vr5) rfl (by kernel_rfl) (by kernel_rfl) (by kernel_rfl) (fun _ _ _ h => h) (Or.inl ⟨by kernel_rfl, fun w' hSw => ?hyr5⟩) (by assumption) ?restr5
          case hyr5 => ((try dsimp only at hSw); go_simp; (try with_reducible rfl))
          simp only [Act.put]
          refine wpAnyH_take (i := 7) (v := ?vr7) rfl (by kernel_rfl) (by kernel_rfl) (by kernel_rfl) (fun _ _ _ h => h) (Or.inl ⟨by kernel_rfl, fun w' hSw => ?hyr7⟩) (by assumption) ?restr7
          case hyr7 => ((try dsimp only at hSw); go_simp; (try with_reducible rfl))
          simp only [Act.put]
          refine wpAnyH_take (i := 8) (v := ?vr8) rfl (by kernel_rfl) (by kernel_rfl) (by kernel_rfl) (fun _ _ _ h => h) (Or.inl ⟨by kernel_rfl, fun w' hSw => ?hyr8⟩) (by assumption) ?restr8
          case hyr8 => ((try dsimp only at hSw); go_simp; (try with_reducible rfl))
          simp only [Act.put]
          refine wpAnyH_take (i := 9) (v := ?vr9) rfl (by kernel_rfl) (by kernel_rfl) (by kernel_rfl) (fun _ _ _ h => h) (Or.inl ⟨by kernel_rfl, fun w' hSw => ?hyr9⟩) (by assumption) ?restr9
          case hyr9 => ((try dsimp only at hSw); go_simp; (try with_reducible rfl))
          simp only [Act.put]
          refine wpAnyH_take (i := 10) (v := ?vr10) rfl (by kernel_rfl) (by kernel_rfl) (by kernel_rfl) (fun _ _ _ h => h) (Or.inl ⟨by kernel_rfl, fun w' hSw => ?hyr10⟩) (by assumption) ?restr10
          case hyr10 => ((try dsimp only at hSw); go_simp; (try with_reducible rfl))
          simp only [Act.put]
          refine wpAnyH_ready (rs := [6]) (by kernel_rfl) (by simp) ?_
          refine AllReadyH.cons rfl (fun K hK => ?_) AllReadyH.nil
          go_simp
          refine (cnt_any (some ⟨g, 0, none⟩) N M _ HE2.out.2.2.1).mono ?_
          rintro e y2 ⟨rfl, hb2⟩
          have HE3 := Lib.hid (HE2.out.keep hb2)
          clear hb2 HE2
          go_wp2_with fail
          refine hK.out _ _ ?hSr6 (fun hHeld => ?restr6)
          case hSr6 => exact HE3.out.2.2.2.1.cells.1
          clear hK K
          refine wpAnyH_take (i := 11) (v := ?vr11) rfl (by kernel_rfl) (by kernel_rfl) (by kernel_rfl) (fun _ _ _ h => h) (Or.inl ⟨by kernel_rfl, fun w' hSw => ?hyr11⟩) (by assumption) ?restr11
          case hyr11 => ((try dsimp only at hSw); go_simp; (try with_reducible rfl))
          simp only [Act.put]
          refine wpAnyH_take (i := 12) (v := ?vr12) rfl (by kernel_rfl) (by kernel_rfl) (by kernel_rfl) (fun _ _ _ h => h) (Or.inl ⟨by kernel_rfl, fun w' hSw => ?hyr12⟩) (by assumption) ?restr12
          case hyr12 => ((try dsimp only at hSw); go_simp; (try with_reducible rfl))
          simp only [Act.put]
          refine wpAnyH_take (i := 13) (v := ?vr13) rfl (by kernel_rfl) (by kernel_rfl) (by kernel_rfl) (fun _ _ _ h => h) (Or.inl ⟨by kernel_rfl, fun w' hSw => ?hyr13⟩) (by assumption) ?restr13
          case hyr13 => ((try dsimp only at hSw); go_simp; (try with_reducible rfl))
          simp only [Act.put]
          refine wpAnyH_take (i := 14) (v := ?vr14) rfl (by kernel_rfl) (by kernel_rfl) (by kernel_rfl) (fun _ _ _ h => h) (Or.inl ⟨by kernel_rfl, fun w' hSw => ?hyr14⟩) (by assumption) ?restr14
          case hyr14 => ((try dsimp only at hSw); go_simp; (try with_reducible rfl))
          simp only [Act.put]
          refine wpAnyH_take (i := 16) (v := ?vr16) rfl (by kernel_rfl) (by kernel_rfl) (by kernel_rfl) (fun _ _ _ h => h) (Or.inl ⟨by kernel_rfl, fun w' hSw => ?hyr16⟩) (by assumption) ?restr16
          case hyr16 => ((try dsimp only at hSw); go_simp; (try with_reducible rfl))
          simp only [Act.put]
          refine wpAnyH_take (i := 17) (v := ?vr17) rfl (by kernel_rfl) (by kernel_rfl) (by kernel_rfl) (fun _ _ _ h => h) (Or.inl ⟨by kernel_rfl, fun w' hSw => ?hyr17⟩) (by assumption) ?restr17
          case hyr17 => ((try dsimp only at hSw); go_simp; (try with_reducible rfl))
          simp only [Act.put]
          refine wpAnyH_take (i := 18) (v := ?vr18) rfl (by kernel_rfl) (by kernel_rfl) (by kernel_rfl) (fun _ _ _ h => h) (Or.inl ⟨by kernel_rfl, fun w' hSw => ?hyr18⟩) (by assumption) ?restr18
          case hyr18 => ((try dsimp only at hSw); go_simp; (try with_reducible rfl))
          simp only [Act.put]
          refine wpAnyH_ready (rs := [15]) (by kernel_rfl) (by simp) ?_
          refine AllReadyH.cons rfl (fun K hK => ?_) AllReadyH.nil
          go_simp
          refine (edges_any (some ⟨g, 0, none⟩) N M hM1 _ HE3.out.2.2.1).mono ?_
          rintro e y3 ⟨hb3, q7, c7, rfl, hr7⟩
          have HE4 := Lib.hid (HE3.out.keep hb3)
          have HR7 := Lib.hid hr7
          clear hr7
          clear hb3 HE3
          go_wp2_with fail
          refine hK.out _ _ ?hSr15 (fun hHeld => ?restr15)
          case hSr15 => exact HE4.out.2.2.2.1.cells.1
          clear hK K
          refine wpAnyH_ready (rs := [19]) (by kernel_rfl) (by simp) ?_
          refine AllReadyH.cons rfl (fun K hK => ?_) AllReadyH.nil
          go_simp
          refine (same_any q7 q c7 c M M hM1 hM1 _ HR7.out HE4.out.2.2.2.2).mono ?_
          rw [decide_eq_true (rfl : M = M)]
          rintro e y4 ⟨rfl, hb4⟩
          have HE5 := Lib.hid (HE4.out.keep hb4)
          clear HR7
          clear hb4 HE4
          go_wp2_with fail
          refine hK.out _ _ ?hSr19 (fun hHeld => ?restr19)
          case hSr19 => exact HE5.out.2.2.2.1.cells.1
          clear hK K
          refine wpAnyH_take (i := 20) (v := ?vr20) rfl (by kernel_rfl) (by kernel_rfl) (by kernel_rfl) (fun _ _ _ h => h) (Or.inl ⟨by kernel_rfl, fun w' hSw => ?hyr20⟩) (by assumption) ?restr20
          case hyr20 => ((try dsimp only at hSw); go_simp; (try with_reducible rfl))
          simp only [Act.put]
          refine wpAnyH_take (i := 21) (v := ?vr21) rfl (by kernel_rfl) (by kernel_rfl) (by kernel_rfl) (fun _ _ _ h => h) (Or.inl ⟨by kernel_rfl, fun w' hSw => ?hyr21⟩) (by assumption) ?restr21
          case hyr21 => ((try dsimp only at hSw); go_simp; (try with_reducible rfl))
          simp only [Act.put]
          refine wpAnyH_take (i := 22) (v := ?vr22) rfl (by kernel_rfl) (by kernel_rfl) (by kernel_rfl) (fun _ _ _ h => h) (Or.inl ⟨by kernel_rfl, fun w' hSw => ?hyr22⟩) (by assumption) ?restr22
          case hyr22 => ((try dsimp only at hSw); go_simp; (try with_reducible rfl))
          simp only [Act.put]
          refine wpAnyH_take (i := 23) (v := ?vr23) rfl (by kernel_rfl) (by kernel_rfl) (by kernel_rfl) (fun _ _ _ h => h) (Or.inl ⟨by kernel_rfl, fun w' hSw => ?hyr23⟩) (by assumption) ?restr23
          case hyr23 => ((try dsimp only at hSw); go_simp; (try with_reducible rfl))
          simp only [Act.put]
          refine wpAnyH_take (i := 24) (v := ?vr24) rfl (by kernel_rfl) (by kernel_rfl) (by kernel_rfl) (fun _ _ _ h => h) (Or.inl ⟨by kernel_rfl, fun w' hSw => ?hyr24⟩) (by assumption) ?restr24
          case hyr24 => ((try dsimp only at hSw); go_simp; (try with_reducible rfl))
          simp only [Act.put]
          refine wpAnyH_take (i := 26) (v := ?vr26) rfl (by kernel_rfl) (by kernel_rfl) (by kernel_rfl) (fun _ _ _ h => h) (Or.inl ⟨by kernel_rfl, fun w' hSw => ?hyr26⟩) (by assumption) ?restr26
          case hyr26 => ((try dsimp only at hSw); go_simp; (try with_reducible rfl))
          simp only [Act.put]
          refine wpAnyH_take (i := 27) (v := ?vr27) rfl (by kernel_rfl) (by kernel_rfl) (by kernel_rfl) (fun _ _ _ h => h) (Or.inl ⟨by kernel_rfl, fun w' hSw => ?hyr27⟩) (by assumption) ?restr27
          case hyr27 => ((try dsimp only at hSw); go_simp; (try with_reducible rfl))
          simp only [Act.put]
          refine wpAnyH_take (i := 28) (v := ?vr28) rfl (by kernel_rfl) (by kernel_rfl) (by kernel_rfl) (fun _ _ _ h => h) (Or.inl ⟨by kernel_rfl, fun w' hSw => ?hyr28⟩) (by assumption) ?restr28
          case hyr28 => ((try dsimp only at hSw); go_simp; (try with_reducible rfl))
          simp only [Act.put]
          refine wpAnyH_take (i := 29) (v := ?vr29) rfl (by kernel_rfl) (by kernel_rfl) (by kernel_rfl) (fun _ _ _ h => h) (Or.inl ⟨by kernel_rfl, fun w' hSw => ?hyr29⟩) (by assumption) ?restr29
          case hyr29 => ((try dsimp only at hSw); go_simp; (try with_reducible rfl))
          simp only [Act.put]
          refine wpAnyH_ready (rs := [25]) (by kernel_rfl) (by simp) ?_
          refine AllReadyH.cons rfl (fun K hK => ?_) AllReadyH.nil
          go_simp
          refine (weight_any (some ⟨g, 0, none⟩) N M HG.out hM1 u v _ HE5.out.2.2.1).mono ?_
          rw [HQ.out.1]
          rintro e y5 ⟨rfl, hb5⟩
          have HE6 := Lib.hid (HE5.out.keep hb5)
          clear hb5 HE5
          go_wp2_with fail
          refine hK.out _ _ ?hSr25 (fun hHeld => ?restr25)
          case hSr25 => exact HE6.out.2.2.2.1.cells.1
          clear hK K
          refine wpAnyH_ready (rs := [30]) (by kernel_rfl) (by simp) ?_
          refine AllReadyH.cons rfl (fun K hK => ?_) AllReadyH.nil
          go_simp
          refine (refWeight_any (N : Int) q c M hM1 u v _ HE6.out.2.2.2.2).mono ?_
          rw [HQ.out.1]
          rintro e y6 ⟨rfl, hb6⟩
          have HE7 := Lib.hid (HE6.out.keep hb6)
          clear hb6 HE6
          go_wp2_with fail
          refine hK.out _ _ ?hSr30 (fun hHeld => ?restr30)
          case hSr30 => exact HE7.out.2.2.2.1.cells.1
          clear hK K
          refine wpAnyH_take (i := 31) (v := ?vr31) rfl (by kernel_rfl) (by kernel_rfl) (by kernel_rfl) (fun _ _ _ h => h) (Or.inl ⟨by kernel_rfl, fun w' hSw => ?hyr31⟩) (by assumption) ?restr31
          case hyr31 => ((try dsimp only at hSw); go_simp; (try with_reducible rfl))
          simp only [Act.put]
          refine wpAnyH_take (i := 32) (v := ?vr32) rfl (by kernel_rfl) (by kernel_rfl) (by kernel_rfl) (fun _ _ _ h => h) (Or.inl ⟨by kernel_rfl, fun w' hSw => ?hyr32⟩) (by assumption) ?restr32
          case hyr32 => ((try dsimp only at hSw); go_simp; (try with_reducible rfl))
          simp only [Act.put]
          refine wpAnyH_take (i := 33) (v := ?vr33) rfl (by kernel_rfl) (by kernel_rfl) (by kernel_rfl) (fun _ _ _ h => h) (Or.inl ⟨by kernel_rfl, fun w' hSw => ?hyr33⟩) (by assumption) ?restr33
          case hyr33 => ((try dsimp only at hSw); go_simp; (try with_reducible rfl))
          simp only [Act.put]
          refine wpAnyH_take (i := 34) (v := ?vr34) rfl (by kernel_rfl) (by kernel_rfl) (by kernel_rfl) (fun _ _ _ h => h) (Or.inl ⟨by kernel_rfl, fun w' hSw => ?hyr34⟩) (by assumption) ?restr34
          case hyr34 => ((try dsimp only at hSw); go_simp; (try with_reducible rfl))
          simp only [Act.put]
          refine wpAnyH_take (i := 35) (v := ?vr35) rfl (by kernel_rfl) (by kernel_rfl) (by kernel_rfl) (fun _ _ _ h => h) (Or.inl ⟨by kernel_rfl, fun w' hSw => ?hyr35⟩) (by assumption) ?restr35
          case hyr35 => ((try dsimp only at hSw); go_simp; (try with_reducible rfl))
          simp only [Act.put]
          refine wpAnyH_take (i := 37) (v := ?vr37) rfl (by kernel_rfl) (by kernel_rfl) (by kernel_rfl) (fun _ _ _ h => h) (Or.inl ⟨by kernel_rfl, fun w' hSw => ?hyr37⟩) (by assumption) ?restr37
          case hyr37 => ((try dsimp only at hSw); go_simp; (try with_reducible rfl))
          simp only [Act.put]
          refine wpAnyH_take (i := 38) (v := ?vr38) rfl (by kernel_rfl) (by kernel_rfl) (by kernel_rfl) (fun _ _ _ h => h) (Or.inl ⟨by kernel_rfl, fun w' hSw => ?hyr38⟩) (by assumption) ?restr38
          case hyr38 => ((try dsimp only at hSw); go_simp; (try with_reducible rfl))
          simp only [Act.put]
          refine wpAnyH_take (i := 39) (v := ?vr39) rfl (by kernel_rfl) (by kernel_rfl) (by kernel_rfl) (fun _ _ _ h => h) (Or.inl ⟨by kernel_rfl, fun w' hSw => ?hyr39⟩) (by assumption) ?restr39
          case hyr39 => ((try dsimp only at hSw); go_simp; (try with_reducible rfl))
          simp only [Act.put]
          refine wpAnyH_ready (rs := [36]) (by kernel_rfl) (by simp) ?_
          refine AllReadyH.cons rfl (fun K hK => ?_) AllReadyH.nil
          go_simp
          refine (degree_any (some ⟨g, 0, none⟩) N M u _ HE7.out.2.2.1).mono ?_
          rw [HDV.out]
          rintro e y7 ⟨rfl, hb7⟩
          have HE8 := Lib.hid (HE7.out.keep hb7)
          clear hb7 HE7
          go_wp2_with fail
          refine hK.out _ _ ?hSr36 (fun hHeld => ?restr36)
          case hSr36 => exact HE8.out.2.2.2.1.cells.1
          clear hK K
          refine wpAnyH_ready (rs := [40]) (by kernel_rfl) (by simp) ?_
          refine AllReadyH.cons rfl (fun K hK => ?_) AllReadyH.nil
          go_simp
          refine (refDegree_any N q c M HG.out hN hM1 u _ HE8.out.2.2.2.2).mono ?_
          rw [HQ.out.2.1]
          rintro e y8 ⟨rfl, hb8⟩
          have HE9 := Lib.hid (HE8.out.keep hb8)
          clear hb8 HE8
          go_wp2_with fail
          refine hK.out _ _ ?hSr40 (fun hHeld => ?restr40)
          case hSr40 => exact HE9.out.2.2.2.1.cells.1
          clear hK K
          refine wpAnyH_take (i := 41) (v := ?vr41) rfl (by kernel_rfl) (by kernel_rfl) (by kernel_rfl) (fun _ _ _ h => h) (Or.inl ⟨by kernel_rfl, fun w' hSw => ?hyr41⟩) (by assumption) ?restr41
          case hyr41 => ((try dsimp only at hSw); go_simp; (try with_reducible rfl))
          simp only [Act.put]
          refine wpAnyH_take (i := 42) (v := ?vr42) rfl (by kernel_rfl) (by kernel_rfl) (by kernel_rfl) (fun _ _ _ h => h) (Or.inl ⟨by kernel_rfl, fun w' hSw => ?hyr42⟩) (by assumption) ?restr42
          case hyr42 => ((try dsimp only at hSw); go_simp; (try with_reducible rfl))
          simp only [Act.put]
          refine wpAnyH_take (i := 43) (v := ?vr43) rfl (by kernel_rfl) (by kernel_rfl) (by kernel_rfl) (fun _ _ _ h => h) (Or.inl ⟨by kernel_rfl, fun w' hSw => ?hyr43⟩) (by assumption) ?restr43
          case hyr43 => ((try dsimp only at hSw); go_simp; (try with_reducible rfl))
          simp only [Act.put]
          refine wpAnyH_take (i := 44) (v := ?vr44) rfl (by kernel_rfl) (by kernel_rfl) (by kernel_rfl) (fun _ _ _ h => h) (Or.inl ⟨by kernel_rfl, fun w' hSw => ?hyr44⟩) (by assumption) ?restr44
          case hyr44 => ((try dsimp only at hSw); go_simp; (try with_reducible rfl))
          simp only [Act.put]
          refine wpAnyH_take (i := 45) (v := ?vr45) rfl (by kernel_rfl) (by kernel_rfl) (by kernel_rfl) (fun _ _ _ h => h) (Or.inl ⟨by kernel_rfl, fun w' hSw => ?hyr45⟩) (by assumption) ?restr45
          case hyr45 => ((try dsimp only at hSw); go_simp; (try with_reducible rfl))
          simp only [Act.put]
          refine wpAnyH_take (i := 47) (v := ?vr47) rfl (by kernel_rfl) (by kernel_rfl) (by kernel_rfl) (fun _ _ _ h => h) (Or.inl ⟨by kernel_rfl, fun w' hSw => ?hyr47⟩) (by assumption) ?restr47
          case hyr47 => ((try dsimp only at hSw); go_simp; (try with_reducible rfl))
          simp only [Act.put]
          refine wpAnyH_take (i := 48) (v := ?vr48) rfl (by kernel_rfl) (by kernel_rfl) (by kernel_rfl) (fun _ _ _ h => h) (Or.inl ⟨by kernel_rfl, fun w' hSw => ?hyr48⟩) (by assumption) ?restr48
          case hyr48 => ((try dsimp only at hSw); go_simp; (try with_reducible rfl))
          simp only [Act.put]
          refine wpAnyH_take (i := 49) (v := ?vr49) rfl (by kernel_rfl) (by kernel_rfl) (by kernel_rfl) (fun _ _ _ h => h) (Or.inl ⟨by kernel_rfl, fun w' hSw => ?hyr49⟩) (by assumption) ?restr49
          case hyr49 => ((try dsimp only at hSw); go_simp; (try with_reducible rfl))
          simp only [Act.put]
          refine wpAnyH_ready (rs := [46]) (by kernel_rfl) (by simp) ?_
          refine AllReadyH.cons rfl (fun K hK => ?_) AllReadyH.nil
          go_simp
          refine (near_any (some ⟨g, 0, none⟩) N M hM1 u _ HE9.out.2.2.1).mono ?_
          rw [HNV.out]
          rintro e y9 ⟨hb9, q8, c8, rfl, hr8⟩
          have HE10 := Lib.hid (HE9.out.keep hb9)
          have HR8 := Lib.hid hr8
          clear hr8
          clear hb9 HE9
          go_wp2_with fail
          refine hK.out _ _ ?hSr46 (fun hHeld => ?restr46)
          case hSr46 => exact HE10.out.2.2.2.1.cells.1
          clear hK K
          refine wpAnyH_ready (rs := [50]) (by kernel_rfl) (by simp) ?_
          refine AllReadyH.cons rfl (fun K hK => ?_) AllReadyH.nil
          go_simp
          refine (refNear_any N q c M HG.out hN hM1 u _ HE10.out.2.2.2.2).mono ?_
          rw [HQ.out.2.2.1]
          rintro e y10 ⟨hb10, q9, c9, rfl, hr9⟩
          have HE11 := Lib.hid (HE10.out.keep hb10)
          have HR9 := Lib.hid (And.intro (HR8.out.over hb10 (Nat.le_refl _)) hr9)
          clear hr9 HR8
          clear hb10 HE10
          go_wp2_with fail
          refine hK.out _ _ ?hSr50 (fun hHeld => ?restr50)
          case hSr50 => exact HE11.out.2.2.2.1.cells.1
          clear hK K
          refine wpAnyH_ready (rs := [51]) (by kernel_rfl) (by simp) ?_
          refine AllReadyH.cons rfl (fun K hK => ?_) AllReadyH.nil
          go_simp
          refine (ints_any q8 q9 c8 c9 L L _ HR9.out.1 HR9.out.2 (by have := HLl.out; omega)).mono ?_
          rw [decide_eq_true (rfl : L = L)]
          rintro e y11 ⟨rfl, md, rfl⟩
          have HE12 := Lib.hid (HE11.out.keep (below_drewN (Below.refl _ _) md))
          clear HE11 HR9
          go_wp2_with fail
          refine hK.out _ _ ?hSr51 (fun hHeld => ?restr51)
          case hSr51 => exact HE12.out.2.2.2.1.cells.1
          clear hK K
          refine wpAnyH_take (i := 52) (v := ?vr52) rfl (by kernel_rfl) (by kernel_rfl) (by kernel_rfl) (fun _ _ _ h => h) (Or.inl ⟨by kernel_rfl, fun w' hSw => ?hyr52⟩) (by assumption) ?restr52
          case hyr52 => ((try dsimp only at hSw); go_simp; (try with_reducible rfl))
          simp only [Act.put]
          refine wpAnyH_take (i := 53) (v := ?vr53) rfl (by kernel_rfl) (by kernel_rfl) (by kernel_rfl) (fun _ _ _ h => h) (Or.inl ⟨by kernel_rfl, fun w' hSw => ?hyr53⟩) (by assumption) ?restr53
          case hyr53 => ((try dsimp only at hSw); go_simp; (try with_reducible rfl))
          simp only [Act.put]
          refine wpAnyH_take (i := 54) (v := ?vr54) rfl (by kernel_rfl) (by kernel_rfl) (by kernel_rfl) (fun _ _ _ h => h) (Or.inl ⟨by kernel_rfl, fun w' hSw => ?hyr54⟩) (by assumption) ?restr54
          case hyr54 => ((try dsimp only at hSw); go_simp; (try with_reducible rfl))
          simp only [Act.put]
          refine wpAnyH_take (i := 56) (v := ?vr56) rfl (by kernel_rfl) (by kernel_rfl) (by kernel_rfl) (fun _ _ _ h => h) (Or.inl ⟨by kernel_rfl, fun w' hSw => ?hyr56⟩) (by assumption) ?restr56
          case hyr56 => ((try dsimp only at hSw); go_simp; (try with_reducible rfl))
          simp only [Act.put]
          refine wpAnyH_take (i := 57) (v := ?vr57) rfl (by kernel_rfl) (by kernel_rfl) (by kernel_rfl) (fun _ _ _ h => h) (Or.inl ⟨by kernel_rfl, fun w' hSw => ?hyr57⟩) (by assumption) ?restr57
          case hyr57 => ((try dsimp only at hSw); go_simp; (try with_reducible rfl))
          simp only [Act.put]
          refine wpAnyH_ready (rs := [55]) (by kernel_rfl) (by simp) ?_
          refine AllReadyH.cons rfl (fun K hK => ?_) AllReadyH.nil
          go_simp
          refine (totalN_any (some ⟨g, 0, none⟩) N hN M HG.out hM1 _ HE12.out.2.2.1).mono ?_
          rw [HQ.out.2.2.2]
          rintro e y12 ⟨rfl, hb12⟩
          have HE13 := Lib.hid (HE12.out.keep hb12)
          clear hb12 HE12
          go_wp2_with fail
          refine hK.out _ _ ?hSr55 (fun hHeld => ?restr55)
          case hSr55 => exact HE13.out.2.2.2.1.cells.1
          clear hK K
          refine wpAnyH_ready (rs := [58]) (by kernel_rfl) (by simp) ?_
          refine AllReadyH.cons rfl (fun K hK => ?_) AllReadyH.nil
          go_simp
          refine (refTotalN_any N q c M HG.out hM1 _ HE13.out.2.2.2.2).mono ?_
          rw [HQ.out.2.2.2]
          rintro e y13 ⟨rfl, hb13⟩
          have HE14 := Lib.hid (HE13.out.keep hb13)
          clear hb13 HE13
          go_wp2_with fail
          refine hK.out _ _ ?hSr58 (fun hHeld => ?restr58)
          case hSr58 => exact HE14.out.2.2.2.1.cells.1
          clear hK K
          refine wpAnyH_take (i := 59) (v := ?vr59) rfl (by kernel_rfl) (by kernel_rfl) (by kernel_rfl) (fun _ _ _ h => h) (Or.inl ⟨by kernel_rfl, fun w' hSw => ?hyr59⟩) (by assumption) ?restr59
          case hyr59 => ((try dsimp only at hSw); go_simp; (try with_reducible rfl))
          simp only [Act.put]
          refine wpAnyH_take (i := 60) (v := ?vr60) rfl (by kernel_rfl) (by kernel_rfl) (by kernel_rfl) (fun _ _ _ h => h) (Or.inl ⟨by kernel_rfl, fun w' hSw => ?hyr60⟩) (by assumption) ?restr60
          case hyr60 => ((try dsimp only at hSw); go_simp; (try with_reducible rfl))
          simp only [Act.put]
          refine wpAnyH_take (i := 61) (v := ?vr61) rfl (by kernel_rfl) (by kernel_rfl) (by kernel_rfl) (fun _ _ _ h => h) (Or.inl ⟨by kernel_rfl, fun w' hSw => ?hyr61⟩) (by assumption) ?restr61
          case hyr61 => ((try dsimp only at hSw); go_simp; (try with_reducible rfl))
          simp only [Act.put]
          refine wpAnyH_ready (rs := [62]) (by kernel_rfl) (by simp) ?_
          refine AllReadyH.cons rfl (fun K hK => ?_) AllReadyH.nil
          go_simp
          refine (awake_any _).mono ?_
          rintro e y14 ⟨rfl, hb14⟩
          have HE15 := Lib.hid (HE14.out.keep hb14)
          clear hb14 HE14
          go_wp2_with fail
          refine hK.out _ _ ?hSr62 (fun hHeld => ?restr62)
          case hSr62 => exact HE15.out.2.2.2.1.cells.1
          clear hK K
          refine wpAnyH_take (i := 63) (v := ?vr63) rfl (by kernel_rfl) (by kernel_rfl) (by kernel_rfl) (fun _ _ _ h => h) (Or.inl ⟨by kernel_rfl, fun w' hSw => ?hyr63⟩) (by assumption) ?restr63
          case hyr63 => ((try dsimp only at hSw); go_simp; (try with_reducible rfl))
          simp only [Act.put]
          refine wpAnyH_ready (rs := [64]) (by kernel_rfl) (by simp) ?_
          refine AllReadyH.cons rfl (fun K hK => ?_) AllReadyH.nil
          go_simp
          refine hK.out _ _ (by assumption) (fun hHeld => ?_)
          clear hK K
          refine wpAnyH_done (by kernel_rfl) ?_ _
          go_wp2
          go_ret
          exact ⟨rfl, HE15.out.1⟩
  · have i1 : (l.length : Int) > 100 := by omega
    go_enter Try.func3, Try.ntmps3
    go_wp2_with fail
    refine (awake_any _).mono ?_
    rintro e w1 ⟨rfl, hb1⟩
    have HB1 := Lib.hid (HB0.out.trans (hb1.mono HB0.out.size))
    clear hb1
    go_wp2
    go_ret
    exact ⟨rfl, HB1.out⟩
theorem own : ownKnob Try.prog.godebug = none := by kernel_rfl
theorem laidOut : laidOutB Try.prog = true := by kernel_rfl
set_option maxRecDepth 100000 in
theorem lifted (os : Os) (started : os.Started) (H : Type) (enc : TypeId × Value → H) :
    ReturnsInHanded {} Try.checked os 3 .any (Rows.netTellsSpec.pre6 enc Try.prog Try.f3 Rows.netTellsRow.domain false) (Rows.netTellsSpec.post enc Try.prog Try.f3 false true false false) := by
  refine returnsInHanded_of_change (C := Try.checked) own started (by kernel_rfl) Try.func3
    (ChangeSpec.witness6 (enc := enc) (C := Try.checked) false ⟨#[], #[.int .i64 0, .slice none 0 0, .agg #[.int .i64 0, .int .i64 0]], []⟩ 8 (by kernel_rfl) (by kernel_rfl) (by kernel_rfl) (by kernel_rfl)) ?_
  intro W base args ds gs before hval0 hW hcnd _
  have hval : ∀ (j : Nat) t v, Try.f3.params[j]? = some t → args[j]? = some v → Value.okWide Try.prog W .any base t v := hval0
  have hW' := hW
  obtain ⟨p, q, hA0, hV, rfl, hfz, hnd⟩ := hW
  have hA : DataW.TrodAll enc Try.prog W 0 (fun _ => true) true Try.f3.params.toList args.toList ds p := hA0
  rw [Try.params3] at hA hval
  obtain ⟨v0, vs0, d0, ds0, p0, q0, hargs, rfl, rfl, h0, r0⟩ := trodAll_cons hA
  obtain ⟨v1, vs1, d1, ds1, p1, q1, rfl, rfl, rfl, h1, r1⟩ := trodAll_cons r0
  obtain ⟨v2, vs2, d2, ds2, p2, q2, rfl, rfl, rfl, h2, r2⟩ := trodAll_cons r1
  obtain ⟨rfl, rfl, rfl⟩ := trodAll_nil r2
  obtain rfl : args = #[v0, v1, v2] := by cases args; simp_all
  obtain ⟨rfl, rfl⟩ := trodVars_none hV
  obtain ⟨a0, rfl, rfl, rfl, w0⟩ := open_int Try.underlying3 (hval 0 3 v0 rfl rfl) h0
  obtain ⟨a1, len1, cap1, rfl⟩ := okWide_slice Try.underlying22 (hval 1 22 v1 rfl rfl)
  have k1 := h1
  have lt1 : ∀ x ∈ p1, x.block < W.heap.size := by obtain ⟨m, hm⟩ := k1; exact DataW.trod_lt m _ _ _ hm
  obtain ⟨l1, hlen1, w1⟩ : ∃ l : List Ed, l.length = len1 ∧ EdIn W a1 l ∧ l.length ≤ maxLen := by
    obtain ⟨fuel, hf⟩ := h1
    exact open_edges hf
  subst hlen1
  have k2 := h2
  have lt2 : ∀ x ∈ p2, x.block < W.heap.size := by obtain ⟨m, hm⟩ := k2; exact DataW.trod_lt m _ _ _ hm
  obtain ⟨a2, rfl, w2⟩ := open_pairV (hval 2 23 v2 rfl rfl) h2
  clear hA0 hval0
  refine (walk_list a0 a1 cap1 l1 a2 W w1.1 w1.2 w2).mono fun e W' ⟨he, bel⟩ => ?_
  subst he
  exact ⟨_, rfl, _, _, _, [], _, [], hW', trodAll_mk1 (shut_bool Try.underlying4 _), (trodAll_cons_mk (shut_int Try.underlying3 w0) (trodAll_cons_mk (Below.trod laidOut (by kernel_rfl) (of_decide_eq_true (by kernel_rfl)) k1 bel lt1) (trodAll_cons_mk (Below.trod laidOut (by kernel_rfl) (of_decide_eq_true (by kernel_rfl)) k2 bel lt2) trodAll_mk0))), rfl, bel.frame _, fun h => by cases h⟩
theorem over : Rows.netTellsRow.holds Try.pinned (OpenSpec.ofChange Rows.netTellsSpec) :=
  OpenClaim.holds_of_wide 3 Try.f3 rfl rfl rfl rfl rfl rfl rfl ⟨rfl, rfl, rfl, rfl, rfl⟩ rfl rfl rfl rfl rfl (by kernel_rfl) Try.func3 (by kernel_rfl)
    (of_decide_eq_true (by kernel_rfl)) (by unfold Func.isWrapper; first | (rw [if_pos (by decide +kernel)]; kernel_rfl) | (rw [if_neg (by decide +kernel)]; exact ⟨rfl, rfl⟩))
    (fun os started H enc _ => lifted os started H enc)
/-- The statement. -/
theorem proved : Rows.NetTellsSaid := over
#print axioms proved

end Go.Proofs.Ytibjpoadpciiaaa.netTells
