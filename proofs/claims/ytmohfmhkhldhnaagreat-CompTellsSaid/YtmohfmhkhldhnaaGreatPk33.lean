/- Texts that the laws of this seat stand on, part 33. -/
import Derived.Test.YtmohfmhkhldhnaaGreatPk29
import Derived.Test.YtmohfmhkhldhnaaGreatPk32
import Derived.Test.YtmohfmhkhldhnaaGreatPk4
import Derived.Test.YtmohfmhkhldhnaaGreatPk10
import Derived.StillTailTactics
/- Contract of rings: of all places the classes that no single edge parts. (gen/cmrings.py writes it.) -/
namespace Go.Proofs.YtmohfmhkhldhnaaGreat.Cm
open Go.RowKit Go.ChangeShapes EdPure NtPure DsuPure CmPure Ds
theorem closed_of {N : Nat} {M : List Ed} {R : List Nat} {U P : List Int} (hW : Wk N M R U P) {r : Nat → Nat} {e : Ed} {u v x y : Nat} (hu : R[u]? = some x) (hv : R[v]? = some y) (h1 : e.1 = (x : Int)) (h2 : e.2.1 = (y : Int)) (hh : U[u]? = some (v : Int) ∨ U[v]? = some (u : Int) ∨ r u = r v) : Closed R U r e := by
  rintro u' v' ⟨x', y', g1, g2, g3, g4⟩
  obtain rfl : x' = x := by omega
  obtain rfl : y' = y := by omega
  obtain rfl := hW.one g1 hu
  obtain rfl := hW.one g2 hv
  exact hh
theorem closed_more {N : Nat} {M : List Ed} {R : List Nat} {U : List Int} {E S : List (Int × Int)} {r r' : Nat → Nat} (h : Rg N M R U E r) (h' : Rg N M R U (E ++ S) r') {e : Ed} (hc : Closed R U r e) : Closed R U r' e := by
  intro u v hh
  rcases hc u v hh with h1 | h1 | h1
  · exact Or.inl h1
  · exact Or.inr (Or.inl h1)
  · exact Or.inr (Or.inr (st_only h.1 (f := r') (fun e he f1 f2 => (h'.1.2 r').2 h'.1.1.2.1 e (List.mem_append_left _ he) f1 f2) h1))
/-- While edges are gone over. -/
def RiSt (cb cg cm : Nat) (w : World) (N : Nat) (M : List Ed) (R : List Nat) (U : List Int) (k : Nat) (W : World) : Prop :=
  ∃ E r, ClsAt cb cg cm W R.length r ∧ (Below w.heap.size w W ∧ w.heap.size ≤ cb ∧ w.heap.size ≤ cg ∧ w.heap.size ≤ cm) ∧ Rg N M R U E r ∧ ∀ e ∈ M.take k, Closed R U r e
theorem RiSt.keep {cb cg cm : Nat} {w : World} {N : Nat} {M : List Ed} {R : List Nat} {U : List Int} {k : Nat} {W W' : World} (h : RiSt cb cg cm w N M R U k W) (hb : Below W.heap.size W W') : RiSt cb cg cm w N M R U k W' := by
  obtain ⟨E, r, h1, ⟨h2, h3⟩, h4⟩ := h
  exact ⟨E, r, h1.keep hb, ⟨h2.trans (hb.mono h2.size), h3⟩, h4⟩
theorem RiSt.next {cb cg cm : Nat} {w : World} {N : Nat} {M : List Ed} {R : List Nat} {U : List Int} {k : Nat} {W : World} {e : Ed} (h : RiSt cb cg cm w N M R U k W) (he : M[k]? = some e) (hc : ∀ r, Closed R U r e) : RiSt cb cg cm w N M R U (k + 1) W := by
  obtain ⟨E, r, h1, h2, h3, h4⟩ := h
  refine ⟨E, r, h1, h2, h3, fun d hd => ?_⟩
  obtain ⟨hk, rfl⟩ := List.getElem?_eq_some_iff.1 he
  rw [List.take_succ_eq_append_getElem hk] at hd
  rcases List.mem_append.1 hd with hd | hd
  · exact h4 d hd
  · rw [List.mem_singleton.1 hd]; exact hc r
def RingsOut (w : World) (N : Nat) (M : List Ed) (R : List Nat) (U : List Int) (e : Ending) (W : World) : Prop :=
  ∃ cb cg cm E r, e = .returned (.pointer (some ⟨cb, 0, none⟩)) ∧ ClsAt cb cg cm W R.length r ∧ (Below w.heap.size w W ∧ w.heap.size ≤ cb ∧ w.heap.size ≤ cg ∧ w.heap.size ≤ cm) ∧ Rg N M R U E r ∧ ∀ e ∈ M, Closed R U r e
theorem room_nat {n : Nat} (h : n ≤ 4096) : roomN (n : Int) = n := roomN_of n h
set_option maxRecDepth 100000 in
set_option maxHeartbeats 4000000 in
theorem rings_any (b g : Nat) (p : Option Addr) (rv uv : Value) (R : List Nat) (U P : List Int) (N : Nat) (M : List Ed) (hN : N ≤ 4096) (hG : GoodN N M) (hM : M.length ≤ 1048576) (q : Option Addr) (c : Nat) (w : World)
    (h : WkX b g p rv uv R U P w) (hW : Wk N M R U P) (hall : ∀ x, x < N → x ∈ R) (hq : ReadsE w.heap.size w q M) :
    Calls Tryz.prog 36 #[.pointer (some ⟨b, 0, none⟩), .slice q M.length c] w fun e w' => RingsOut w N M R U e w' := by
  have HX := Lib.hid h
  have HW := Lib.hid hW
  have HG := Lib.hid hG
  have HQ := Lib.hid hq
  have HAL := Lib.hid hall
  have hRN := hW.few
  have hPl := hW.pl
  have hUl := hW.ul
  obtain ⟨rq, rc, uq, uc, e1, e2, ⟨c0, c1, c2, c3⟩, -, ⟨hb, -, -, -⟩, -, -⟩ := h.cells
  subst e1
  subst e2
  clear h hW hG hq hall c0 c2 c3
  go_enter Tryz.func36, Tryz.ntmps36
  go_wp2_with fail
  refine (new_any (R.length : Int) w).mono ?_
  rw [room_nat (by omega)]
  rintro e w1 ⟨cb, cg, cm, rfl, hb1, g1, g2, g3, k1⟩
  have H1 : Hid (RiSt cb cg cm w N M R U 0 w1) := Lib.hid ⟨[], _, k1, ⟨hb1, g1, g2, g3⟩, Rg.start N M R U, by simp⟩
  clear hb1 g1 g2 g3 k1 c1 hb
  go_wp2_with fail
  go_loopw [18] (fun i wr => ∃ k : Nat, i = .int .i64 k ∧ k ≤ M.length ∧ Hid (RiSt cb cg cm w N M R U k wr)) (fun i _ => M.length - (intOf i).toNat)
  case atStart => exact ⟨0, rfl, Nat.zero_le _, H1⟩
  case round =>
    clear H1
    obtain ⟨k, rfl, hk, HK⟩ := hrel
    by_cases hlt : k < M.length
    · have i1 : (k : Int) < (M.length : Int) := by omega
      have i0 : (0 : Int) ≤ (k : Int) := by omega
      obtain ⟨x, y, x1, y1, hxy, hyN, -⟩ := ed_in HG.out (List.getElem_mem hlt)
      obtain ⟨wt, he⟩ : ∃ wt, M[k] = ((x : Int), (y : Int), wt) := ⟨M[k].2.2, by rw [← x1, ← y1]⟩
      have HE : Hid (M[k]? = some ((x : Int), (y : Int), wt)) := Lib.hid (by rw [List.getElem?_eq_getElem hlt, he])
      have hB : Below w.heap.size w wr := by obtain ⟨E, r, -, ⟨h2, -⟩, -⟩ := HK.out; exact h2
      have HX1 := Lib.hid (HX.out.keep hB)
      obtain ⟨Mb, Mo, rfl, hbw, hbr, m0, m1, m2⟩ := HQ.out.cells hlt hB he
      obtain ⟨u, hu, hpu⟩ : ∃ u : Nat, R[u]? = some x ∧ P[x]? = some (u : Int) := by
        rcases HW.out.place (by omega : x < N) with ⟨h1, -⟩ | h1
        · exact absurd (HAL.out x (by omega)) h1
        · exact h1
      obtain ⟨v, hv, hpv⟩ : ∃ v : Nat, R[v]? = some y ∧ P[y]? = some (v : Int) := by
        rcases HW.out.place hyN with ⟨h1, -⟩ | h1
        · exact absurd (HAL.out y hyN) h1
        · exact h1
      have hul := (List.getElem?_eq_some_iff.1 hu).1
      have hvl := (List.getElem?_eq_some_iff.1 hv).1
      obtain ⟨zu, hzu⟩ : ∃ z, U[u]? = some z := ⟨_, List.getElem?_eq_getElem (by omega)⟩
      obtain ⟨zv, hzv⟩ : ∃ z, U[v]? = some z := ⟨_, List.getElem?_eq_getElem (by omega)⟩
      have HU := Lib.hid (And.intro hu hpu)
      have HV := Lib.hid (And.intro hv hpv)
      have HZ := Lib.hid (And.intro hzu hzv)
      have HK1 := Lib.hid (HK.out.keep ((Below.refl wr.heap.size wr).alloc (Nat.le_refl _) (.cells #[.int .i64 (x : Int), .int .i64 (y : Int), .int .i64 wt] 54)))
      have HX2 := Lib.hid (HX1.out.keep ((Below.refl wr.heap.size wr).alloc (Nat.le_refl _) (.cells #[.int .i64 (x : Int), .int .i64 (y : Int), .int .i64 wt] 54)))
      have HT := Lib.hid (ThreeAt.new wr (.int .i64 (x : Int)) (.int .i64 (y : Int)) (.int .i64 wt) 54)
      clear HK HX1 hB he hu hpu hv hpv hzu hzv x1 y1
      go_upto_region 5 with fail
      clear m0 m1 m2 hbw hbr
      generalize wr.alloc (.cells #[.int .i64 (x : Int), .int .i64 (y : Int), .int .i64 wt] 54) = W1 at *
      generalize wr.heap.size = K at *
      obtain ⟨t0, t1, -, -⟩ := HT.out
      have hK := HT.out.lt
      obtain ⟨⟨-, c1, c2, c3⟩, -⟩ := HX2.out.1.cells
      have hb := HX2.out.1.lt
      have hg := (HX2.out.lt (Or.inr (Or.inl rfl) : WkO b g _ _ g)).2
      have d1 := (HX2.out.place HU.out.2).1
      have d2 := (HX2.out.place HV.out.2).1
      have j1 : (x : Int) < (P.length : Int) := by omega
      have j2 : (0 : Int) ≤ (x : Int) := by omega
      have j3 : (y : Int) < (P.length : Int) := by omega
      have j4 : (0 : Int) ≤ (y : Int) := by omega
      go_quiet (fail)
      have HK2 := Lib.hid (HK1.out.keep (below_drewN (Below.refl _ _) nq))
      have HX3 := Lib.hid (HX2.out.drawn nq)
      clear HK1 HX2 HT t0 t1 hK c1 c2 c3 hb hg d1 d2 j1 j2 j3 j4
      generalize W1.drewN nq = W2 at *
      obtain ⟨⟨-, c1, c2, c3⟩, -⟩ := HX3.out.1.cells
      have hb := HX3.out.1.lt
      obtain ⟨uq', uc', e1, hrU, -⟩ := owns_readsL rfl HX3.out.2.2.1.2
      cases e1
      obtain ⟨Ub, Uo, e1, hcu, hUb⟩ := reads_at hrU HZ.out.1
      obtain ⟨Ub', Uo', e2, hcv, -⟩ := reads_at hrU HZ.out.2
      subst e1
      cases e2
      have k0 : (0 : Int) ≤ (u : Int) := by omega
      have k1 : (u : Int) < (U.length : Int) := by omega
      have k2 : (0 : Int) ≤ (v : Int) := by omega
      have k3 : (v : Int) < (U.length : Int) := by omega
      clear hrU
      by_cases hz1 : zu = (v : Int)
      · have t1 : (zu != (v : Int)) = false := by rw [hz1]; simp
        have HN := Lib.hid (HK2.out.next HE.out fun r => closed_of HW.out HU.out.1 HV.out.1 rfl rfl (Or.inl (by rw [HZ.out.1, hz1])))
        clear hz1
        go_wp2
        go_roundw
        case rel => exact ⟨k + 1, by go_num, hlt, HN⟩
        case measure => (simp [intOf]; omega)
      have t1 : (zu != (v : Int)) = true := by simpa using hz1
      by_cases hz2 : zv = (u : Int)
      · have t2 : (zv != (u : Int)) = false := by rw [hz2]; simp
        have HN := Lib.hid (HK2.out.next HE.out fun r => closed_of HW.out HU.out.1 HV.out.1 rfl rfl (Or.inr (Or.inl (by rw [HZ.out.2, hz2]))))
        clear hz2 hz1
        go_wp2
        go_roundw
        case rel => exact ⟨k + 1, by go_num, hlt, HN⟩
        case measure => (simp [intOf]; omega)
      have t2 : (zv != (u : Int)) = true := by simpa using hz2
      have HCL : Hid (Calls Tryz.prog 60 #[.pointer (some ⟨b, 0, none⟩), .pointer (some ⟨cb, 0, none⟩), .int .i64 (u : Int), .int .i64 (v : Int)] W2 fun e w' => e = .returned (.tuple #[]) ∧ RiSt cb cg cm w N M R U (k + 1) w') := by
        obtain ⟨E, r, q1, ⟨q2, q3, q4, q5⟩, q6, q7⟩ := HK2.out
        refine Lib.hid ((close_any b g cb cg cm p _ _ R U P N M hN HG.out E r u v x y k _ W2 HX3.out (fun j hj => ?_) q1 HW.out q6 HE.out HU.out.1 HV.out.1 (Or.inl ⟨rfl, rfl⟩) (by rw [HZ.out.1]; exact fun e => hz1 (Option.some.inj e)) (by rw [HZ.out.2]; exact fun e => hz2 (Option.some.inj e))).mono ?_)
        · have := (HX.out.lt hj).2
          omega
        · rintro e w' ⟨rfl, E', r', s1, s2, s3, ⟨S, rfl⟩, s5⟩
          have hbel : Below w.heap.size w w' := q2.trans (s2.below q2.size q4 q5)
          refine ⟨rfl, E ++ S, r', s1, ⟨hbel, q3, q4, q5⟩, s3, fun d hd => ?_⟩
          rw [List.take_succ_eq_append_getElem hlt] at hd
          rcases List.mem_append.1 hd with hd | hd
          · exact closed_more q6 s3 (q7 d hd)
          · obtain ⟨hk', he'⟩ := List.getElem?_eq_some_iff.1 HE.out
            rw [List.mem_singleton.1 hd, he']
            exact closed_of HW.out HU.out.1 HV.out.1 rfl rfl (Or.inr (Or.inr s5))
      clear hz1 hz2 HK2
      go_wp2_with fail
      refine HCL.out.mono ?_
      rintro e w5 ⟨rfl, h5⟩
      have H5 := Lib.hid h5
      clear h5 HCL c1 c2 c3 hcu hcv hb
      go_wp2
      go_roundw
      case rel => exact ⟨k + 1, by go_num, hlt, H5⟩
      case measure => (simp [intOf]; omega)
    · have hkM : k = M.length := by omega
      have i1 : ¬ (k : Int) < (M.length : Int) := by omega
      have HE : Hid (RingsOut w N M R U (.returned (.pointer (some ⟨cb, 0, none⟩))) wr) := by
        obtain ⟨E, r, k1, k2, k3, k4⟩ := HK.out
        rw [hkM, List.take_length] at k4
        exact Lib.hid ⟨cb, cg, cm, E, r, rfl, k1, k2, k3, k4⟩
      clear hkM HK
      go_wp2
      go_ret
      exact HE.out
end Go.Proofs.YtmohfmhkhldhnaaGreat.Cm
/- Why there is no graph of so many vertices and these edges. -/
namespace Go.Proofs.YtmohfmhkhldhnaaGreat
open Go.RowKit Go.ChangeShapes EdPure
/-- Why there is no graph, and where. -/
def errN (n : Int) (l : List Ed) : Int × Int := if n < 0 then (1, 0) else if 4096 < n ∨ 1048576 < l.length then (3, 0) else chkL n l 0
theorem chkL_good {n : Int} : ∀ {l : List Ed} {i : Nat}, (chkL n l i).1 = 0 → ∀ e ∈ l, chkE n e = 0
  | [], _, _, e, he => by simp at he
  | x :: r, i, h, e, he => by
    unfold chkL at h
    by_cases hx : chkE n x = 0
    · rw [if_pos hx] at h
      rcases List.mem_cons.1 he with rfl | he
      · exact hx
      · exact chkL_good h e he
    · rw [if_neg hx] at h
      exact absurd h hx
theorem chkL_zero {n : Int} {l : List Ed} (h : (chkL n l 0).1 = 0) : chkL n l 0 = (0, 0) :=
  chk_miss n l 0 fun _ hj => chkL_good h _ (List.getElem_mem hj)
end Go.Proofs.YtmohfmhkhldhnaaGreat
/- Contract of gather: a map of sums by pairs. -/
namespace Go.Proofs.YtmohfmhkhldhnaaGreat
open Go.RowKit Go.ChangeShapes Go.Maps EdPure NumPure
def GatRel (w : World) (l : List Ed) (k : Nat) (wr : World) : Prop :=
  k ≤ l.length ∧ Below w.heap.size w wr ∧ ∃ M D, gathM (l.take k) = some M ∧ OwnsD wr w.heap.size M.length D ∧ MapIs M D
def GathOut (l : List Ed) (w : World) (e : Ending) (w' : World) : Prop :=
  Below w.heap.size w w' ∧ ((gathM l = none ∧ e = .returned (.tuple #[.map none, .bool false])) ∨
    ∃ M m D, gathM l = some M ∧ e = .returned (.tuple #[.map (some m), .bool true]) ∧ w.heap.size ≤ m ∧ OwnsD w' m M.length D ∧ MapIs M D)
theorem made_map (w : World) : (Instr.makeMap 90 none).run Tryz.prog w = .ok (.map (some w.heap.size)) (w.alloc (.map #[] 0)) := rfl
theorem step_loop {M : List Ed} {u v x : Int} (h : u = v) : stepM (some M) (u, v, x) = some M := by unfold stepM; simp [h]
theorem step_add {M : List Ed} {u v x : Int} (h : u ≠ v) : stepM (some M) (u, v, x) = addL M (normE (u, v, x)) := by unfold stepM; simp [h]
set_option maxRecDepth 100000 in
set_option maxHeartbeats 800000 in
theorem gather_any (a : Option Addr) (c : Nat) (l : List Ed) (hl : l.length ≤ 1048576) (hI : InL l) (w : World) (hR : ReadsE w.heap.size w a l) :
    Calls Tryz.prog 46 #[.slice a l.length c] w fun e w' => GathOut l w e w' := by
  have HR := Lib.hid hR
  have HI := Lib.hid hI
  have hmm := made_map
  have HS : Hid (GatRel w l 0 (w.alloc (.map #[] 0))) := Lib.hid ⟨Nat.zero_le _, (Below.refl _ _).alloc (Nat.le_refl _) _, [], .map [], by rw [List.take_zero]; rfl, World.ownsMap_made _ _ _ _, MapIs.empty⟩
  clear hR hI
  go_enter Tryz.func46, Tryz.ntmps46
  go_wp2
  go_loopw [13] (fun i wr => ∃ k : Nat, i = .int .i64 k ∧ Hid (GatRel w l k wr)) (fun i _ => l.length - (intOf i).toNat)
  case atStart => exact ⟨0, rfl, HS⟩
  case round =>
    obtain ⟨k, rfl, HK⟩ := hrel
    clear HS hmm
    have i0 : (0 : Int) ≤ (k : Int) := by omega
    by_cases hlt : k < l.length
    · have i1 : (k : Int) < (l.length : Int) := by omega
      obtain ⟨-, hB, M, D, hM, hO, hD⟩ := HK.out
      obtain ⟨u, v, x, he⟩ : ∃ u v x, l[k] = (u, v, x) := ⟨_, _, _, rfl⟩
      obtain ⟨b, off, rfl, hbw, hbr, c0, c1, c2⟩ := HR.out.cells hlt hB he
      have hin : InE (u, v, x) := by have := HI.out.at hlt; rwa [he] at this
      have hst : gathM (l.take (k + 1)) = stepM (some M) (u, v, x) := by rw [gath_take hlt, hM, he]
      have hgood := (gath_upto HI.out k (by omega) hM).1
      have hMl := (gath_upto HI.out k (by omega) hM).2
      by_cases huv : u = v
      · subst huv
        have HN : Hid (GatRel w l (k + 1) (wr.alloc (.cells #[.int .i64 u, .int .i64 u, .int .i64 x] 54))) := Lib.hid
          ⟨hlt, hB.alloc hB.size _, M, D, hst.trans (step_loop rfl), map_on hO ((Below.refl _ _).alloc (Nat.le_refl _) _), hD⟩
        clear hB hM hO hD he hin hst hgood
        go_wp2
        exact ⟨⟨k + 1, by go_num, HN⟩, by simp [intOf]; omega⟩
      · have HN := Lib.hid (fun W => ends_any (u, v, x) W)
        obtain ⟨p, q, y, hq⟩ : ∃ p q y, normE (u, v, x) = (p, q, y) := ⟨_, _, _, rfl⟩
        obtain rfl : y = x := by have := norm_w (u, v, x); rw [hq] at this; exact this
        have hnin : InE (p, q, y) := by rw [← hq]; exact norm_in hin
        have hpq : p < q := by have := norm_lt (e := (u, v, y)) huv; rw [hq] at this; exact this
        rw [step_add huv, hq] at hst
        have hee : endsE (u, v, y) = (p, q) := by unfold endsE; rw [hq]
        rw [hee] at HN
        unfold encE encP at HN
        have t : (u == v) = false := by simpa using huv
        have h3 := ThreeAt.new wr (.int .i64 u) (.int .i64 v) (.int .i64 y) 54
        have hO1 := map_on hO ((Below.refl _ _).alloc (Nat.le_refl _) (.cells #[.int .i64 u, .int .i64 v, .int .i64 y] 54))
        have hB1 := hB.alloc hB.size (.cells #[.int .i64 u, .int .i64 v, .int .i64 y] 54)
        have H1 := Lib.hid (And.intro h3 (And.intro hO1 hB1))
        have HQ := Lib.hid (And.intro hst (And.intro hnin (And.intro hpq (And.intro hgood hD))))
        have hin3 : In y := hin.2.2
        clear h3 hO1 hB1 hst hnin hpq hgood hD hin hq hee hO hB hM he huv
        go_wp2_with fail
        have hbw : wr.heap.size < (wr.alloc (.cells #[.int .i64 u, .int .i64 v, .int .i64 y] 54)).heap.size := by simp
        generalize wr.alloc (.cells #[.int .i64 u, .int .i64 v, .int .i64 y] 54) = W1 at *
        refine (HN.out _).mono ?_
        rintro e w1 ⟨rfl, hb⟩
        have h2 := TwoAt.new w1 (.int .i64 p) (.int .i64 q) 23
        have hb2 : Below W1.heap.size W1 (w1.alloc (.cells #[.int .i64 p, .int .i64 q] 23)) := hb.alloc hb.size _
        have h3 := H1.out.1.on hb2 H1.out.1.lt
        have hO2 := map_on H1.out.2.1 hb2
        have hB2 := H1.out.2.2.trans (hb2.mono H1.out.2.2.size)
        go_wp2
        have h2' : TwoAt w1.heap.size ((w1.alloc (.cells #[.int .i64 p, .int .i64 q] 23)).drewN 1) (.int .i64 p) (.int .i64 q) := h2
        have h3' : ThreeAt wr.heap.size ((w1.alloc (.cells #[.int .i64 p, .int .i64 q] 23)).drewN 1) (.int .i64 u) (.int .i64 v) (.int .i64 y) := h3
        have hO3 : OwnsD ((w1.alloc (.cells #[.int .i64 p, .int .i64 q] 23)).drewN 1) w.heap.size M.length D := hO2
        have hB3 : Below w.heap.size w ((w1.alloc (.cells #[.int .i64 p, .int .i64 q] 23)).drewN 1) := below_drewN hB2 1
        clear h2 h3 hO2 hB2 hb hb2 H1 HN
        refine wp_region_still_tail 10 (by kernel_rfl) (by kernel_rfl) ?_
        change wpStill _ _ ((w1.alloc (.cells #[.int .i64 p, .int .i64 q] 23)).drewN 1) _ _ _
        change wpStill _ _ _ (fun a' => wpList _ _ _ _ _ ((w1.alloc (.cells #[.int .i64 p, .int .i64 q] 23)).drewN 1)) _ _
        generalize (w1.alloc (.cells #[.int .i64 p, .int .i64 q] 23)).drewN 1 = W3 at *
        generalize w1.heap.size = P1 at *
        obtain ⟨-, ⟨ip, iq, -⟩, hpq, hgood, hD⟩ := HQ.out
        have hlook := look_any hO3 hD ip iq
        have HO3 := Lib.hid (And.intro hO3 hB3)
        obtain ⟨a0, a1, -, -⟩ := h2'
        obtain ⟨d0, d1, d2, -, -, -⟩ := h3'
        have hw := wOf_in (M := M) (fun x hx => (hgood.2 x hx).2) p q
        have hadd := add_none (e := (p, q, y)) hgood.1 hin3
        have HA := Lib.hid (And.intro hadd (And.intro (And.intro ip iq) (And.intro hgood hD)))
        clear hO3 hB3 hgood hD hadd ip iq
        simp only [List.take_succ_cons, List.take_zero, List.drop_succ_cons, List.drop_zero]
        have hcall := add_any (wOf M p q) y hw hin3 W3
        clear hw
        generalize hsum : wOf M p q = sum at *
        cases hf : fitsB (sum + y)
        · have HX : Hid (gathM l = none) := Lib.hid (gath_stays (k + 1) (HQ.out.1.trans (HA.out.1.2 hf)))
          rw [hf] at hcall
          have HC := Lib.hid hcall
          clear hf hcall hsum
          iterate 5 still_step
          still_call (HC.out.mono fun _ _ ⟨h1, h2⟩ => ⟨h1, h2.symm⟩)
          iterate 4 still_step
          refine wpStill_nil ?_
          go_wp2
          go_ret2
          exact ⟨HO3.out.2, Or.inl ⟨HX.out, rfl⟩⟩
        · have hc : cut (sum + y) = sum + y := cut_in ((fits_iff _).1 hf)
          rw [hf, hc] at hcall
          obtain ⟨M', hM'⟩ : ∃ M', addL M (p, q, y) = some M' := by
            cases hM' : addL M (p, q, y) with
            | none => rw [HA.out.1.1 hM'] at hf; cases hf
            | some M' => exact ⟨M', rfl⟩
          have HP : Hid (MapIs M' (D.put (kP p q) (dI (sum + y))) ∧ gathM (l.take (k + 1)) = some M') := Lib.hid ⟨map_addP HA.out.2.2.2 HA.out.2.2.1.1 HA.out.2.1.1 HA.out.2.1.2 hM' hsum, HQ.out.1.trans hM'⟩
          have hwf : (Lit.int .i64 (sum + y)).wf = true := WalkArith.wf_i64 (by have := (fits_iff _).1 hf; omega)
          have HC := Lib.hid hcall
          have HK2 : Hid (keyOf Tryz.prog 23 (.agg #[.int .i64 p, .int .i64 q]) = some (kP p q)) := Lib.hid (keyP HA.out.2.1.1 HA.out.2.1.2)
          have HO4 : Hid (W3.ownsMap Tryz.prog 23 (plainElem (H := Unit) Tryz.prog 2) w.heap.size M.length D) := Lib.hid HO3.out.1
          have HV : Hid (plainElem (H := Unit) Tryz.prog 2 (.int .i64 (sum + y)) = some (dI (sum + y), [])) := Lib.hid (plainElem_int Tryz.underlying2 hwf)
          clear hf hcall hsum hc hM'
          iterate 5 still_step
          still_call (HC.out.mono fun _ _ ⟨h1, h2⟩ => ⟨h1, h2.symm⟩)
          iterate 4 still_step
          refine wpStill_nil ?_
          go_wp2_with (first
            | (at_mapUpdate; refine wpList_mapUpdate_own _ rfl _ _ _ 90 rfl 23 2 lawP Tryz.underlying90 _ w.heap.size M.length D rfl HO4.out (by unfold maxLen; omega) (.agg #[.int .i64 p, .int .i64 q]) (.int .i64 (sum + y)) (kP p q) rfl rfl HK2.out (dI (sum + y)) [] HV.out ?_; intro w5 hown5 hg5; have HZ := Lib.hid (And.intro hown5 hg5); clear hown5 hg5; go_frame))
          exact ⟨⟨k + 1, by go_num, Lib.hid ⟨hlt, HO3.out.2.grown HZ.out.2 HO3.out.2.size (fun j hj => by cases hj; exact Nat.le_refl _), M', D.put (kP p q) (dI (sum + y)), HP.out.2, by have h := map_tight HZ.out.1; rwa [HP.out.1.2.2.2] at h, HP.out.1⟩⟩, by simp [intOf]; omega⟩
    · have hk : k = l.length := by have := HK.out.1; omega
      subst hk
      obtain ⟨-, hB, M, D, hM, hO, hD⟩ := HK.out
      rw [List.take_length] at hM
      have HZ := Lib.hid (And.intro hB (And.intro hM (And.intro hO hD)))
      clear hB hM hO hD
      go_wp2
      go_ret2
      exact ⟨HZ.out.1, Or.inr ⟨M, w.heap.size, D, HZ.out.2.1, rfl, Nat.le_refl _, HZ.out.2.2.1, HZ.out.2.2.2⟩⟩
end Go.Proofs.YtmohfmhkhldhnaaGreat
