/- Texts that the laws of this seat stand on, part 35. -/
import Derived.Test.YtmohfmhkhldhnaaGreatPk30
import Derived.Test.YtmohfmhkhldhnaaGreatPk33
import Derived.Test.YtmohfmhkhldhnaaGreatPk34
import Derived.Sort.OwnSortedInts
import Derived.Test.YtmohfmhkhldhnaaGreatPk15
import Derived.Test.YtmohfmhkhldhnaaGreatPk23
/- Contracts of Name, Reach and Bridges: all that the laws of this layer ask of the program. -/
namespace Go.Proofs.YtmohfmhkhldhnaaGreat.Cm
open Go.RowKit Go.ChangeShapes EdPure NtPure DsuPure CmPure Ds
theorem hmf : ∀ (fn : Fn) (first cap : Array Value) (w : World), (Instr.makeFunc fn first cap).run Tryz.prog w = .ok (.func fn first cap) w := fun _ _ _ _ => rfl
set_option maxRecDepth 100000 in
theorem compName_any (p : Option Addr) (N : Nat) (M : List Ed) (hN : N ≤ 4096) (hG : GoodN N M) (hM : M.length ≤ 10000) (w : World) (h : NetAt p N M w) :
    Calls Tryz.prog 12 #[.pointer p] w fun e w' => IntsOf (nameL N (namH N M 0)) w e w' := by
  have HN := Lib.hid h
  have hm := hmf
  have HJ := Lib.hid (fun w h => classes_any p N M hN hG hM w h)
  clear h hG
  go_enter Tryz.func12, Tryz.ntmps12
  go_wp2_with fail
  refine (num_any p N M w HN.out).mono ?_
  rintro e w1 ⟨rfl, hb1⟩
  have HB1 := Lib.hid hb1
  clear hb1
  go_wp2_with fail
  refine (HJ.out w1 (HN.out.over HB1.out)).mono ?_
  rintro e w2 ⟨cb, cg, cm, rfl, h1, h2, h3, h4, h5⟩
  have HC := Lib.hid h1
  have HB2 := Lib.hid (And.intro (HB1.out.trans (h2.mono HB1.out.size)) (And.intro (Nat.le_trans HB1.out.size h4) (Nat.le_trans HB1.out.size h5)))
  clear h1 h2 h3 h4 h5 HJ HN
  go_wp2_with fail
  refine (named_any cb cg cm N (namH N M 0) hN w2 HC.out).mono ?_
  rintro e w3 ⟨ht, q, c, rfl, hr⟩
  have HE : Hid (IntsOf (nameL N (namH N M 0)) w (.returned (.slice q (nameL N (namH N M 0)).length c)) w3) := Lib.hid ⟨HB2.out.1.trans (ht.below HB2.out.1.size HB2.out.2.1 HB2.out.2.2), q, c, rfl, hr⟩
  clear ht hr
  go_wp2
  go_ret
  exact HE.out
/-- What is sorted. -/
theorem sort_any (b gr cap : Nat) (e : TypeId) (l : List Int) (w : World) (h : w.ownsRow b e 1 (.slice (some ⟨gr, 0, none⟩) l.length cap) l.length (l.map encZ)) (hl : l.length ≤ 1000000) :
    Calls Tryz.prog 32 #[.slice (some ⟨gr, 0, none⟩) l.length cap] w fun e' w' => e' = .returned (.tuple #[]) ∧ w.grownBy w' (some gr) ∧ w'.ownsRow b e 1 (.slice (some ⟨gr, 0, none⟩) l.length cap) l.length ((l.mergeSort fun x y => decide (x ≤ y)).map encZ) := by
  obtain ⟨h1, ⟨h2, -⟩ | ⟨g, cp, cur, h2, h3, h4, h5, h6, h7, h8⟩⟩ := h
  · cases h2
  cases h2
  have hg : gr < w.heap.size := (Array.getElem?_eq_some_iff.1 h4).1
  have hH := Go.holds_of_blockI (ss := l) h4 (by rw [Nat.mul_one] at h8; exact h8)
  refine Calls.mono (AnyM.slices_Sort_int Tryz.laysSort gr 0 cap l w hH hg (by omega)) ?_
  rintro e' w' ⟨rfl, n, os, rfl⟩
  exact ⟨rfl, Go.grownBy_sortedI _, Go.ownsRow_sortedI (by simp) h3 h4 h5 h6 h7⟩
theorem row_rises (n : Nat) (p : Nat → Nat) (r : Nat) : (rowL n p r).Pairwise (· < ·) := by
  unfold rowL
  rw [List.pairwise_map]
  exact (List.pairwise_lt_range.filter _).imp (fun {a b} h => by omega)
/-- Sorted, what is reached is the class. -/
theorem sort_reach {N : Nat} {M : List Ed} {v : Nat} {R : List Nat} {U P : List Int} (h : FromP N M [] v R U P) (hv : v < N) : (zN R).mergeSort (fun x y => decide (x ≤ y)) = reachL N (namH N M 0) (v : Int) := by
  have nd : ∀ {l : List Int}, l.Pairwise (· < ·) → l.Nodup := fun {l} hl => hl.imp (fun {a b} hab e => by omega)
  have hr := row_rises N (namH N M 0) (namH N M 0 v)
  have hs := List.pairwise_mergeSort (le := fun x y : Int => decide (x ≤ y)) (fun a b c h1 h2 => by simp at h1 h2 ⊢; omega) (fun a b => by simp; omega) (zN R)
  have hp := List.mergeSort_perm (zN R) fun x y => decide (x ≤ y)
  have hz : (zN R).Nodup := by
    unfold zN
    exact List.pairwise_map.2 (h.1.nd.imp fun {a b} hab e => hab (by omega))
  unfold reachL
  rw [if_pos (fit_of hv), Int.toNat_natCast]
  refine List.Perm.eq_of_pairwise (le := (· ≤ ·)) (fun a b _ _ h1 h2 => by omega) (hs.imp fun h => by simpa using h) (hr.imp fun {a b} h => Int.le_of_lt h) ?_
  refine hp.trans ((List.perm_ext_iff_of_nodup hz (nd hr)).2 fun x => ?_)
  rw [row_mem]
  unfold zN
  rw [List.mem_map]
  constructor
  · rintro ⟨y, hy, rfl⟩
    have := (from_reach h y).1 hy
    exact ⟨fit_of this.1, by simpa using this.2⟩
  · rintro ⟨h1, h2⟩
    obtain ⟨y, rfl, hy⟩ := fit_yes h1
    exact ⟨y, (from_reach h y).2 ⟨hy, by simpa using h2⟩, rfl⟩
set_option maxRecDepth 100000 in
set_option maxHeartbeats 4000000 in
theorem compReach_any (p : Option Addr) (N : Nat) (M : List Ed) (hN : N ≤ 4096) (hG : GoodN N M) (hM : M.length ≤ 10000) (v : Int) (w : World) (h : NetAt p N M w) :
    Calls Tryz.prog 9 #[.pointer p, .int .i64 v] w fun e w' => IntsOf (reachL N (namH N M 0) v) w e w' := by
  have HN := Lib.hid h
  have HG := Lib.hid hG
  clear h hG
  by_cases hf : fitB N v = true
  · obtain ⟨x, rfl, hx⟩ := fit_yes hf
    have t0 : decide ((x : Int) < 0) = false := decide_eq_false (by omega)
    have t1 : decide ((x : Int) ≥ (N : Int)) = false := decide_eq_false (by omega)
    clear hf
    go_enter Tryz.func9, Tryz.ntmps9
    go_wp2_with fail
    refine (num_any p N M w HN.out).mono ?_
    rintro e w1 ⟨rfl, hb1⟩
    have HB1 := Lib.hid hb1
    clear hb1
    go_wp2_with fail
    refine (newWalk_any p N M hN w1 (HN.out.over HB1.out)).mono ?_
    rintro e w2 ⟨b, g, rfl, h1, h2, h3⟩
    have HX := Lib.hid h1
    have HB2 := Lib.hid (And.intro (HB1.out.trans (h2.mono HB1.out.size)) (Nat.le_trans HB1.out.size h3))
    clear h1 h2 h3 HB1 t0 t1
    go_wp2_with fail
    refine (from_any b g p _ _ [] [] _ N M x hx hN HG.out (by omega) w2 HX.out (Wk.start N M) (fun i z hi => by simp at hi) (fun W ht => HN.out.over (wk_over HX.out HB2.out.1 rfl HB2.out.2 ht))).mono ?_
    rintro e w3 ⟨rfl, R, U, P, ⟨rv, uv, k1, k2, k3⟩, k4⟩
    have HB3 := Lib.hid (wk_over HX.out HB2.out.1 rfl HB2.out.2 k2)
    have hRl : 0 < R.length := List.length_pos_of_mem k4.2.2.2.1
    obtain ⟨gr, cap, e1, hgr, hgl⟩ := owns_slice k1.2.2.1.1 hRl
    subst e1
    have hRN := k4.1.few
    have HSO := sort_any (b + 1) gr cap 3 (zN R) w3 (by rw [zN_len']; exact k1.2.2.1.1) (by rw [zN_len']; omega)
    rw [sort_reach k4 hx, zN_len'] at HSO
    have HLN : Hid ((reachL N (namH N M 0) (x : Int)).length = R.length) := Lib.hid (by rw [← sort_reach k4 hx, List.length_mergeSort, zN_len'])
    have HS := Lib.hid HSO
    have HGB : Hid (w.heap.size ≤ gr ∧ b ≠ gr) := Lib.hid ⟨by have := (k1.2.1).1; have := HB2.out.2; omega, by omega⟩
    obtain ⟨⟨-, c1, -, -⟩, -⟩ := k1.1.cells
    have hb := k1.1.lt
    clear k1 k2 k3 k4 HSO HX HB2 hgr hgl hRl
    go_wp2_with fail
    refine HS.out.mono ?_
    rintro e w4 ⟨rfl, hg4, ho4⟩
    have c4 : w4.cell? ⟨b, 1, none⟩ = some (.slice (some ⟨gr, 0, none⟩) R.length cap) := (World.cell?_of_block (a := ⟨b, 1, none⟩) (hg4.block b hb (fun e => HGB.out.2 (Option.some.inj e)))).trans c1
    have hb4 : b < w4.heap.size := Nat.lt_of_lt_of_le hb hg4.size
    have HE : Hid (IntsOf (reachL N (namH N M 0) (x : Int)) w (.returned (.slice (some ⟨gr, 0, none⟩) R.length cap)) w4) := by
      rw [← HLN.out] at ho4 ⊢
      obtain ⟨q, c, e1, hr, -⟩ := owns_readsL rfl ho4
      cases e1
      exact Lib.hid ⟨HB3.out.grown hg4 HB3.out.size (fun k hk => by cases hk; exact HGB.out.1), _, _, rfl, hr⟩
    clear c1 hb hg4 ho4 HS
    go_wp2
    go_ret
    exact HE.out
  · have HE : Hid (∀ W, Below w.heap.size w W → IntsOf (reachL N (namH N M 0) v) w (.returned (.slice none 0 0)) W) := Lib.hid (by
      intro W hW
      unfold reachL
      rw [if_neg hf]
      exact ⟨hW, none, 0, rfl, Or.inl rfl⟩)
    rcases fit_no (by simpa using hf) with hv | hv
    · have t0 : decide (v < 0) = true := decide_eq_true hv
      clear hf
      go_enter Tryz.func9, Tryz.ntmps9
      go_wp2
      go_ret
      exact HE.out _ (Below.refl _ _)
    · have t0 : decide (v < 0) = false := decide_eq_false (by omega)
      have t1 : decide (v ≥ (N : Int)) = true := decide_eq_true (by omega)
      clear hf
      go_enter Tryz.func9, Tryz.ntmps9
      go_wp2_with fail
      refine (num_any p N M w HN.out).mono ?_
      rintro e w1 ⟨rfl, hb1⟩
      have HE1 := Lib.hid (HE.out _ hb1)
      clear hb1
      go_wp2
      go_ret
      exact HE1.out
/-- While bridges are gathered. -/
def BgSt (cb cg cm : Nat) (w : World) (m : Nat) (r : Nat → Nat) (xs : List Int) (bv : Value) (W : World) : Prop :=
  ClsAt cb cg cm W m r ∧ (Below w.heap.size w W ∧ w.heap.size ≤ cg ∧ w.heap.size ≤ cm) ∧ ∃ B, W.ownsRow B 3 1 bv xs.length (xs.map encZ) ∧ (cb < B ∧ cg < B ∧ cm < B) ∧ B ≤ W.heap.size
theorem BgSt.keep {cb cg cm : Nat} {w : World} {m : Nat} {r : Nat → Nat} {xs : List Int} {bv : Value} {W W' : World} (h : BgSt cb cg cm w m r xs bv W) (hb : Below W.heap.size W W') : BgSt cb cg cm w m r xs bv W' := by
  obtain ⟨h1, ⟨h2, h3⟩, B, h4, h5, h6⟩ := h
  exact ⟨h1.keep hb, ⟨h2.trans (hb.mono h2.size), h3⟩, B, owns_below h4 hb, h5, Nat.le_trans h6 hb.size⟩
theorem BgSt.turn {cb cg cm : Nat} {w : World} {m : Nat} {r : Nat → Nat} {xs : List Int} {bv : Value} {W W' : World} (h : BgSt cb cg cm w m r xs bv W) (ht : Turns cg cm W W') (hc : ClsAt cb cg cm W' m r) : BgSt cb cg cm w m r xs bv W' := by
  obtain ⟨h1, ⟨h2, h3, h4⟩, B, h5, h6, h7⟩ := h
  refine ⟨hc, ⟨h2.trans (ht.below h2.size h3 h4), h3, h4⟩, B, owns_same h5 fun k hk => ?_, h6, Nat.le_trans h7 ht.2.2.2.1⟩
  have := h5.lt k hk
  exact ht.2.2.2.2 k this.2 (by omega) (by omega)
theorem BgSt.base {cb cg cm : Nat} {w : World} {m : Nat} {r : Nat → Nat} {xs : List Int} {bv : Value} {W : World} (h : BgSt cb cg cm w m r xs bv W) : ∃ B, W.ownsRow B 3 1 bv xs.length (xs.map encZ) ∧ B ≤ W.heap.size ∧ ∀ (x : Int) (bv' : Value) (w1 w2 : World), Below W.heap.size W w1 → w2.ownsRow B 3 1 bv' (xs.length + 1) (xs.map encZ ++ [.int .i64 x]) → w1.grownBy w2 bv.ownBlock → BgSt cb cg cm w m r (xs ++ [x]) bv' w2 := by
  have hl := h.1.lt
  obtain ⟨h1, ⟨h2, h3⟩, B, h4, ⟨h5, h6, h7⟩, h8⟩ := h
  refine ⟨B, h4, h8, fun x bv' w1 w2 hb ho hg => ?_⟩
  have hB : Below (min B W.heap.size) W w2 := (hb.mono (Nat.min_le_right _ _)).grown hg (Nat.le_trans (Nat.min_le_right _ _) hb.size) (fun k hk => by have := (h4.lt k hk).1; omega)
  refine ⟨h1.on hB (by omega) (by omega) (by omega), ⟨h2.trans ?_, h3⟩, B, by rw [List.length_append, List.map_append]; exact ho, ⟨h5, h6, h7⟩, Nat.le_trans h8 (Nat.le_trans hb.size hg.size)⟩
  have hle : w.heap.size ≤ B := by omega
  exact hB.mono (by have := h2.size; omega)
theorem brL_step (n : Nat) (M : List Ed) (k : Nat) : zN (brL n M (k + 1)) = if brB n M k = true then zN (brL n M k) ++ [(k : Int)] else zN (brL n M k) := by
  show zN (brL n M k ++ _) = _
  unfold zN
  split
  · simp
  · simp
set_option maxRecDepth 100000 in
set_option maxHeartbeats 4000000 in
theorem compBridges_any (p : Option Addr) (N : Nat) (M : List Ed) (hN : N ≤ 4096) (hG : GoodN N M) (hM : M.length ≤ 10000) (w : World) (h : NetAt p N M w) :
    Calls Tryz.prog 11 #[.pointer p] w fun e w' => IntsOf (zN (brL N M M.length)) w e w' := by
  have HN := Lib.hid h
  have HG := Lib.hid hG
  obtain ⟨ti, hi1, hi2, hi3, hi4⟩ := info_int
  clear h hG
  go_enter Tryz.func11, Tryz.ntmps11
  go_wp2_with fail
  refine (walkAll_any p N M hN HG.out (by omega) w HN.out).mono ?_
  rintro e w1 ⟨b, g, rv, uv, R, U, P, rfl, h1, h2, h3, h4⟩
  have HX := Lib.hid h1
  have HB1 := Lib.hid h2
  have HW := Lib.hid h3
  have HAL := Lib.hid h4
  clear h1 h2 h3 h4
  go_wp2_with fail
  refine (edges_any p N M (by omega) w1 (HN.out.over HB1.out)).mono ?_
  rintro e w2 ⟨hb2, q, c, rfl, hr2⟩
  have HX2 := Lib.hid (HX.out.keep hb2)
  have HB2 := Lib.hid (HB1.out.trans (hb2.mono HB1.out.size))
  have HQ := Lib.hid hr2
  clear hb2 hr2 HX HB1 HN
  go_wp2_with fail
  refine (rings_any b g p rv uv R U P N M hN HG.out (by omega) q c w2 HX2.out HW.out HAL.out HQ.out).mono ?_
  rintro e w3 ⟨cb, cg, cm, E, r, rfl, k1, ⟨k2, k3, k4, k5⟩, k6, k7⟩
  have hlt := k1.lt
  have HS : Hid (BgSt cb cg cm w2 R.length r (zN (brL N M 0)) (.slice none 0 0) w3) := Lib.hid ⟨k1, ⟨k2, k4, k5⟩, w3.heap.size, World.ownsRow_nil _ _ _ _, hlt, Nat.le_refl _⟩
  have HR := Lib.hid (And.intro k6 k7)
  clear k1 k2 k3 k4 k5 k6 k7 hlt
  go_wp2_with fail
  go_loopw [6, 18] (fun bv i wr => ∃ k : Nat, i = .int .i64 k ∧ k ≤ M.length ∧ Hid (BgSt cb cg cm w2 R.length r (zN (brL N M k)) bv wr)) (fun _ i _ => M.length - (intOf i).toNat)
  case atStart => exact ⟨0, rfl, Nat.zero_le _, HS⟩
  case round =>
    clear HS
    obtain ⟨k, rfl, hk, HK⟩ := hrel
    by_cases hlt : k < M.length
    · have i1 : (k : Int) < (M.length : Int) := by omega
      have i0 : (0 : Int) ≤ (k : Int) := by omega
      obtain ⟨x, y, x1, y1, hxy, hyN, -⟩ := ed_in HG.out (List.getElem_mem hlt)
      obtain ⟨wt, he⟩ : ∃ wt, M[k] = ((x : Int), (y : Int), wt) := ⟨M[k].2.2, by rw [← x1, ← y1]⟩
      have HE : Hid (M[k]? = some ((x : Int), (y : Int), wt)) := Lib.hid (by rw [List.getElem?_eq_getElem hlt, he])
      have hB := HK.out.2.1.1
      have HX3 := Lib.hid (HX2.out.keep hB)
      obtain ⟨Mb, Mo, rfl, hbw, hbr, m0, m1, m2⟩ := HQ.out.cells hlt hB he
      obtain ⟨u, hu, hpu⟩ : ∃ u : Nat, R[u]? = some x ∧ P[x]? = some (u : Int) := by
        rcases HW.out.place (by omega : x < N) with ⟨h1, -⟩ | h1
        · exact absurd (HAL.out x (by omega)) h1
        · exact h1
      obtain ⟨v, hv, hpv⟩ : ∃ v : Nat, R[v]? = some y ∧ P[y]? = some (v : Int) := by
        rcases HW.out.place hyN with ⟨h1, -⟩ | h1
        · exact absurd (HAL.out y hyN) h1
        · exact h1
      have hul := (List.getElem?_eq_some_iff.1 hu).1
      have hvl := (List.getElem?_eq_some_iff.1 hv).1
      have HBR : Hid (brB N M k = !decide (r u = r v)) := Lib.hid (ring_tells HG.out HW.out HAL.out HR.out.1 HR.out.2 HE.out ⟨x, y, hu, hv, rfl, rfl⟩)
      have HU := Lib.hid hpu
      have HV := Lib.hid hpv
      have hRN := HW.out.few
      have HK1 := Lib.hid (HK.out.keep ((Below.refl wr.heap.size wr).alloc (Nat.le_refl _) (.cells #[.int .i64 (x : Int), .int .i64 (y : Int), .int .i64 wt] 54)))
      have HX4 := Lib.hid (HX3.out.keep ((Below.refl wr.heap.size wr).alloc (Nat.le_refl _) (.cells #[.int .i64 (x : Int), .int .i64 (y : Int), .int .i64 wt] 54)))
      have HT := Lib.hid (ThreeAt.new wr (.int .i64 (x : Int)) (.int .i64 (y : Int)) (.int .i64 wt) 54)
      clear HK HX3 hB he hu hpu hv hpv x1 y1
      go_upto_region 8 with fail
      clear m0 m1 m2 hbw hbr
      generalize wr.alloc (.cells #[.int .i64 (x : Int), .int .i64 (y : Int), .int .i64 wt] 54) = W1 at *
      generalize wr.heap.size = K at *
      have HK2 := Lib.hid (HK1.out.keep (below_drewN (Below.refl _ _) 1))
      have HX5 := Lib.hid (HX4.out.drawn 1)
      have HT5 := Lib.hid (HT.out.on (below_drewN (Below.refl W1.heap.size W1) 1) HT.out.lt)
      clear HK1 HX4 HT
      refine wp_region_still_tail 17 (by kernel_rfl) (by kernel_rfl) ?_
      change wpStill _ _ (W1.drewN 1) _ _ _
      change wpStill _ _ _ (fun a' => wpList _ _ _ _ _ (W1.drewN 1)) _ _
      generalize W1.drewN 1 = V at *
      obtain ⟨t0, t1, -, -⟩ := HT5.out
      have hK := HT5.out.lt
      obtain ⟨⟨-, c1, c2, c3⟩, -⟩ := HX5.out.1.cells
      have hb := HX5.out.1.lt
      have hg := (HX5.out.lt (Or.inr (Or.inl rfl) : WkO b g _ _ g)).2
      have d1 := (HX5.out.place HU.out).1
      have d2 := (HX5.out.place HV.out).1
      have j1 : (x : Int) < (P.length : Int) := by have := HW.out.pl; omega
      have j2 : (0 : Int) ≤ (x : Int) := by omega
      have j3 : (y : Int) < (P.length : Int) := by have := HW.out.pl; omega
      have j4 : (0 : Int) ≤ (y : Int) := by omega
      simp only [List.take_succ_cons, List.take_zero, List.drop_succ_cons, List.drop_zero]
      iterate 17 still_step
      refine wpStill_nil ?_
      go_wp2_with fail
      refine (same_any cb cg cm R.length r (u : Int) (v : Int) V HK2.out.1).mono ?_
      rw [same_fit r hul hvl]
      rintro e w5 ⟨rfl, t5, l5⟩
      have H5 := Lib.hid (HK2.out.turn t5 l5)
      clear t5 l5 HK2 HX5 HT5 t0 t1 hK c1 c2 c3 hb hg d1 d2 j1 j2 j3 j4
      by_cases hrr : r u = r v
      · have HN1 : Hid (zN (brL N M (k + 1)) = zN (brL N M k)) := Lib.hid (by rw [brL_step, HBR.out, decide_eq_true hrr]; rfl)
        rw [decide_eq_true hrr]
        rw [← HN1.out] at H5
        clear hrr
        go_wp2
        go_roundw
        case rel => exact ⟨k + 1, by go_num, hlt, H5⟩
        case measure => (simp [intOf]; omega)
      · have HN1 : Hid (zN (brL N M (k + 1)) = zN (brL N M k) ++ [(k : Int)]) := Lib.hid (by rw [brL_step, HBR.out, decide_eq_false hrr]; rfl)
        rw [decide_eq_false hrr]
        obtain ⟨B, ho, hBl, hpush⟩ := H5.out.base
        have HO := Lib.hid ho
        have HP := Lib.hid hpush
        have hll : (zN (brL N M k)).length ≤ 10000 := by have := brL_len N M k; rw [zN_len']; omega
        clear hrr ho hpush
        generalize zN (brL N M k) = xs at *
        obtain ⟨bq, bc, eb⟩ := owns_any HO.out
        subst eb
        go_wp2_with (at_builtin; refine wpList_append_own_at _ rfl _ _ 32 rfl B 3 ti (.int .i64 0) 1 8 Tryz.underlying32 hi1 hi2 hi3 hi4 rfl (by decide) (.slice bq xs.length bc) xs.length (xs.map encZ) rfl (HO.out.alloc _) ⟨w5.heap.size, 0, none⟩ 1 1 [.int .i64 (k : Int)] rfl rfl one_news (by intro u' hu; simp at hu; subst hu; rfl) (by unfold maxLen; omega) (by omega) (by simp; omega) ?_; intro v6 w6 hown6 hg6 _ _; have H6 := Lib.hid (HP.out _ _ _ _ ((Below.refl _ _).alloc (Nat.le_refl _) _) hown6 hg6); clear hown6 hg6)
        go_roundw
        case rel => exact ⟨k + 1, by go_num, hlt, by rw [HN1.out]; exact H6⟩
        case measure => (simp [intOf]; omega)
    · have hkM : k = M.length := by omega
      have i1 : ¬ (k : Int) < (M.length : Int) := by omega
      subst hkM
      obtain ⟨bq, bc, eb⟩ : ∃ q c, u6 = .slice q (zN (brL N M M.length)).length c := by
        obtain ⟨-, -, B, ho, -⟩ := HK.out
        exact owns_any ho
      subst eb
      have HE : Hid (IntsOf (zN (brL N M M.length)) w (.returned (.slice bq (zN (brL N M M.length)).length bc)) wr) := by
        obtain ⟨-, ⟨h2, -⟩, B, ho, -⟩ := HK.out
        obtain ⟨q', c', e1, hr, -⟩ := owns_readsL rfl ho
        cases e1
        exact Lib.hid ⟨HB2.out.trans (h2.mono HB2.out.size), _, _, rfl, hr⟩
      clear HK
      go_wp2
      go_ret
      exact HE.out
end Go.Proofs.YtmohfmhkhldhnaaGreat.Cm
/- The law's awake (layer 20). -/
namespace Go.Proofs.YtmohfmhkhldhnaaGreat.Cm
open Go.RowKit Go.ChangeShapes EdPure NtPure DsuPure CmPure Ds
abbrev awL : List Ed := [(0, 1, 5), (1, 2, 1)]
theorem aw_merge : mergeE awL = some awL := by decide
theorem aw_err : errN 4 awL = (0, 0) := by decide
theorem aw_in : InL awL := by
  intro e he
  rcases List.mem_cons.1 he with rfl | h
  · unfold InE In; simp
  · rw [List.mem_singleton.1 h]; unfold InE In; simp
theorem aw_facts : (listsP 4 (namH 4 awL 0)).length = 2 ∧ (listsP 4 (namH 4 awL 2)).length = 3 ∧ reachL 4 (namH 4 awL 0) 2 = [0, 1, 2] ∧ (zN (brL 4 awL awL.length)).length = 2 := by decide
theorem three_ints (w : World) (x y z : Int) (T : TypeId) : ReadsL encZ (w.alloc (.cells #[.int .i64 x, .int .i64 y, .int .i64 z] T)).heap.size (w.alloc (.cells #[.int .i64 x, .int .i64 y, .int .i64 z] T)) (some ⟨w.heap.size, 0, none⟩) [x, y, z] := by
  refine Or.inr ⟨w.heap.size, 0, rfl, by simp, fun i hi => ?_⟩
  match i, hi with
  | 0, _ => simp [encZ]
  | 1, _ => simp [encZ]
  | 2, _ => simp [encZ]
set_option maxRecDepth 100000 in
set_option maxHeartbeats 800000 in
theorem awake_any (w : World) : Calls Tryz.prog 5 #[] w fun e w' => e = .returned (.bool true) ∧ Below w.heap.size w w' := by
  have hb0 : Below w.heap.size w (w.alloc (.cells #[.int .i64 0, .int .i64 1, .int .i64 5, .int .i64 1, .int .i64 2, .int .i64 1] 54)) := (Below.refl _ _).alloc (Nat.le_refl _) _
  have hR : ReadsE (w.alloc (.cells #[.int .i64 0, .int .i64 1, .int .i64 5, .int .i64 1, .int .i64 2, .int .i64 1] 54)).heap.size (w.alloc (.cells #[.int .i64 0, .int .i64 1, .int .i64 5, .int .i64 1, .int .i64 2, .int .i64 1] 54)) (some ⟨w.heap.size, 0, none⟩) awL := by
    refine Or.inr ⟨w.heap.size, 0, rfl, by simp, fun i hi => ?_⟩
    match i, hi with
    | 0, _ => simp
    | 1, _ => simp
  have HM := Lib.hid (newNet_any 4 _ 2 _ aw_in _ hR)
  have HB := Lib.hid hb0
  have HF := Lib.hid aw_facts
  clear hR hb0
  go_enter Tryz.func5, Tryz.ntmps5
  go_wp2_with fail
  refine HM.out.mono ?_
  rintro e w1 ⟨hb1, ⟨hn, -⟩ | ⟨-, N, M, g0, hN, hN4, hg, -, -, hA, rfl, hn⟩⟩
  · rw [aw_err] at hn; exact absurd rfl hn
  obtain rfl := Option.some.inj (aw_merge.symm.trans hA)
  obtain rfl : N = 4 := by omega
  replace HB := Lib.hid (HB.out.trans (hb1.mono HB.out.size))
  have HG := Lib.hid hg
  have HN := Lib.hid hn
  clear hb1 hA hg hn HM hN
  go_wp2_with fail
  refine (compCount_any _ 4 _ (by omega) HG.out (by simp) _ HN.out).mono ?_
  rw [HF.out.1]
  rintro e w2 ⟨rfl, hb2⟩
  replace HB := Lib.hid (HB.out.trans (hb2.mono HB.out.size))
  replace HN := Lib.hid (HN.out.over hb2)
  clear hb2
  go_wp2_with fail
  refine (compHeavy_any _ 4 _ (by omega) HG.out (by simp) 2 _ HN.out).mono ?_
  rintro e w3 ⟨hb3, q3, d3, M3, he3, -, -⟩
  rw [HF.out.2.1] at he3
  subst he3
  replace HB := Lib.hid (HB.out.trans (hb3.mono HB.out.size))
  replace HN := Lib.hid (HN.out.over hb3)
  clear hb3
  go_wp2_with fail
  refine (compReach_any _ 4 _ (by omega) HG.out (by simp) 2 _ HN.out).mono ?_
  rw [HF.out.2.2.1]
  rintro e w4 ⟨hb4, q, c, rfl, hr4⟩
  replace HB := Lib.hid (HB.out.trans (hb4.mono HB.out.size))
  replace HN := Lib.hid (HN.out.over hb4)
  have hbA : Below w4.heap.size w4 (w4.alloc (.cells #[.int .i64 0, .int .i64 1, .int .i64 2] 3)) := (Below.refl _ _).alloc (Nat.le_refl _) _
  have HI := Lib.hid (ints_any q (some ⟨w4.heap.size, 0, none⟩) c 3 [0, 1, 2] [0, 1, 2] _ (hr4.over hbA (Nat.le_refl _)) (three_ints w4 0 1 2 3) (by simp))
  rw [show decide (([0, 1, 2] : List Int) = [0, 1, 2]) = true from rfl] at HI
  replace HB := Lib.hid (HB.out.trans (hbA.mono HB.out.size))
  replace HN := Lib.hid (HN.out.over hbA)
  clear hb4 hbA hr4
  go_wp2_with fail
  refine HI.out.mono ?_
  rintro e w5 ⟨rfl, md, rfl⟩
  replace HB := Lib.hid (HB.out.trans ((below_drewN (Below.refl _ _) md).mono HB.out.size))
  replace HN := Lib.hid (HN.out.over (below_drewN (Below.refl _ _) md))
  clear HI
  go_wp2_with fail
  refine (compBridges_any _ 4 _ (by omega) HG.out (by simp) _ HN.out).mono ?_
  rintro e w6 ⟨hb6, q6, c6, he6, -⟩
  rw [HF.out.2.2.2] at he6
  subst he6
  replace HB := Lib.hid (HB.out.trans (hb6.mono HB.out.size))
  clear hb6
  go_wp2
  go_ret
  exact ⟨rfl, HB.out⟩
end Go.Proofs.YtmohfmhkhldhnaaGreat.Cm
/- The document's Weight of a graph. -/
namespace Go.Proofs.YtmohfmhkhldhnaaGreat
open Go.RowKit Go.ChangeShapes EdPure NtPure NumPure
theorem wOf_hit {M : List Ed} {p q : Int} : ∀ {k : Nat} (hk : k < M.length), isAt p q M[k] → (∀ j (hj : j < M.length), j < k → ¬ isAt p q M[j]) → wOf M p q = M[k].2.2 := by
  induction M with
  | nil => intro k hk; simp at hk
  | cons x r ih =>
    intro k hk h1 h2
    cases k with
    | zero => simp only [wOf, List.getElem_cons_zero]; exact if_pos h1
    | succ k =>
      have h0 : ¬ isAt p q x := h2 0 (by simp) (by omega)
      simp only [wOf]
      rw [if_neg h0, ih (by simpa using hk) h1 (fun j hj hjk => h2 (j + 1) (by simpa using hj) (by omega))]
      rfl
theorem wOf_miss {M : List Ed} {p q : Int} (h : ∀ j (hj : j < M.length), ¬ isAt p q M[j]) : wOf M p q = 0 := by
  induction M with
  | nil => rfl
  | cons x r ih =>
    have h0 : ¬ isAt p q x := h 0 (by simp)
    simp only [wOf]
    rw [if_neg h0]
    exact ih fun j hj => h (j + 1) (by simpa using hj)
/-- A graph of the document's, as a value and as it lies in a variable. -/
def RnAt (N : Nat) (n : Int) (a : Option Addr) (c : Nat) (M : List Ed) (w : World) : Prop := TwoAt N w (.int .i64 n) (.slice a M.length c) ∧ ReadsE w.heap.size w a M
theorem RnAt.keep {N : Nat} {n : Int} {a : Option Addr} {c : Nat} {M : List Ed} {w w' : World} (h : RnAt N n a c M w) (hb : Below w.heap.size w w') : RnAt N n a c M w' := ⟨h.1.on hb h.1.lt, h.2.over hb (Nat.le_refl _)⟩
theorem RnAt.box {n : Int} {a : Option Addr} {c : Nat} {M : List Ed} {w : World} (h : ReadsE w.heap.size w a M) : RnAt w.heap.size n a c M (w.alloc (.cells #[.int .i64 n, .slice a M.length c] 37)) :=
  ⟨TwoAt.new _ _ _ _, h.over ((Below.refl _ _).alloc (Nat.le_refl _) _) (Nat.le_refl _)⟩
def noneTo (M : List Ed) (p q : Int) (k : Nat) : Prop := k ≤ M.length ∧ ∀ j (hj : j < M.length), j < k → ¬ isAt p q M[j]
theorem noneTo.next {M : List Ed} {p q : Int} {k : Nat} (h : noneTo M p q k) (hk : k < M.length) (h0 : ¬ isAt p q M[k]) : noneTo M p q (k + 1) :=
  ⟨hk, fun j hj hjk => by
    by_cases e : j = k
    · subst e; exact h0
    · exact h.2 j hj (by omega)⟩
end Go.Proofs.YtmohfmhkhldhnaaGreat
