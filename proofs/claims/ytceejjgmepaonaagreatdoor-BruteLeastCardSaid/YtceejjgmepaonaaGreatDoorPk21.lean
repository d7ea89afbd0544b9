/- Texts that the laws of this seat stand on, part 21. -/
import Derived.Test.YtceejjgmepaonaaGreatDoorPk20
/- Contracts of the search by halves, between, Weight. -/
namespace Go.Proofs.YtceejjgmepaonaaGreatDoor
open Go.RowKit Go.ChangeShapes EdPure NtPure NumPure
theorem cmpB_any (a b : Ed) (w : World) : Calls Tryz.prog 41 #[encE a, encE b] w fun e w' => e = .returned (.int .i64 (cmpE a b)) ∧ Below w.heap.size w w' := by
  refine (cmp_any a b w).mono ?_
  rintro e w' ⟨rfl, q, os, rfl⟩
  exact ⟨rfl, rfl, rfl, rfl, by simp [Go.Sort.grow, World.drewN], fun k hk => by
    show (w.heap ++ os)[k]? = w.heap[k]?
    rw [Array.getElem?_append_left hk]⟩
theorem below_grown (w : World) (q : Nat) (os : Array Obj) : Below w.heap.size w (Go.Sort.grow (w.drewN q) os) :=
  ⟨rfl, rfl, rfl, by simp [Go.Sort.grow, World.drewN], fun k hk => by
    show (w.heap ++ os)[k]? = w.heap[k]?
    rw [Array.getElem?_append_left hk]⟩
/-- While it is sought. -/
def BsRel (w : World) (l : List Ed) (p q x : Int) (lo hi : Nat) (wr : World) : Prop :=
  Below w.heap.size w wr ∧ ThreeAt w.heap.size wr (.int .i64 p) (.int .i64 q) (.int .i64 x) ∧ (∀ t (h : t < l.length), t < lo → cmpE l[t] (p, q, x) < 0) ∧ ∀ t (h : t < l.length), hi ≤ t → 0 ≤ cmpE l[t] (p, q, x)
def BsOut (l : List Ed) (t : Ed) (w : World) (e : Ending) (w' : World) : Prop :=
  Below w.heap.size w w' ∧ ∃ (i : Nat) (b : Bool), e = .returned (.tuple #[.int .i64 (i : Int), .bool b]) ∧ i ≤ l.length ∧ (∀ j (h : j < l.length), j < i → cmpE l[j] t < 0) ∧ ∀ j (h : j < l.length), i ≤ j → 0 ≤ cmpE l[j] t
theorem bs_none (l : List Ed) (t : Ed) (j : Nat) (hj : j < l.length) (hm : ∀ i j (hi : i < l.length) (hj : j < l.length), i ≤ j → cmpE l[j] t < 0 → cmpE l[i] t < 0) (h : ¬ cmpE l[j] t < 0) : ∀ k (hk : k < l.length), j ≤ k → 0 ≤ cmpE l[k] t :=
  fun k hk hjk => Int.not_lt.1 fun h2 => h (hm j k hj hk hjk h2)
set_option maxRecDepth 100000 in
set_option maxHeartbeats 1000000 in
theorem search_any (a : Option Addr) (c : Nat) (l : List Ed) (hl : l.length ≤ 1048576) (p q x : Int) (w : World) (hR : ReadsE w.heap.size w a l) (hm : ∀ i j (hi : i < l.length) (hj : j < l.length), i ≤ j → cmpE l[j] (p, q, x) < 0 → cmpE l[i] (p, q, x) < 0) :
    Calls Tryz.prog 98 #[.slice a l.length c, encE (p, q, x), .func (.func 41) #[] #[]] w fun e w' => BsOut l (p, q, x) w e w' := by
  have HR := Lib.hid hR
  have HM := Lib.hid hm
  have HC := Lib.hid (fun y w => cmpB_any y (p, q, x) w)
  have HS : Hid (BsRel w l p q x 0 l.length (w.alloc (.cells #[.int .i64 p, .int .i64 q, .int .i64 x] 51))) := Lib.hid ⟨(Below.refl _ _).alloc (Nat.le_refl _) _, ThreeAt.new _ _ _ _ _, fun t _ h => by omega, fun t h h2 => by omega⟩
  clear hR hm
  unfold encE
  simp only
  go_enter Tryz.func98, Tryz.ntmps98
  go_wp2
  go_loopw [9, 10] (fun s9 s10 wr => ∃ lo hi : Nat, s9 = .int .i64 lo ∧ s10 = .int .i64 hi ∧ lo ≤ hi ∧ hi ≤ l.length ∧ Hid (BsRel w l p q x lo hi wr)) (fun s9 s10 _ => (intOf s10).toNat - (intOf s9).toNat)
  case atStart => exact ⟨0, l.length, rfl, rfl, Nat.zero_le _, Nat.le_refl _, HS⟩
  case round =>
    obtain ⟨lo, hi, rfl, rfl, hlh, hin, HK⟩ := hrel
    clear HS
    by_cases hlt : lo < hi
    · have hy : (lo + hi) / 2 < l.length := by omega
      obtain ⟨u, v, z, he⟩ : ∃ u v z, l[(lo + hi) / 2] = (u, v, z) := ⟨_, _, _, rfl⟩
      obtain ⟨b, off, rfl, hbw, hbr, c0, c1, c2⟩ := HR.out.cells hy HK.out.1 he
      obtain ⟨t0, t1, t2, -, -, -⟩ := HK.out.2.1
      have htl := HK.out.2.1.lt
      generalize hk : (lo + hi) / 2 = k at *
      have hkk : ((lo : Int) + (hi : Int)) / 2 = (k : Int) := by omega
      have i0 : (0 : Int) ≤ (k : Int) := by omega
      have i1 : (k : Int) < (l.length : Int) := by omega
      have HKK : Hid (lo ≤ k ∧ k < hi) := Lib.hid (by omega)
      have HB : Hid (Below w.heap.size w wr) := Lib.hid HK.out.1
      have H3 : Hid (ThreeAt w.heap.size wr (.int .i64 p) (.int .i64 q) (.int .i64 x)) := Lib.hid HK.out.2.1
      have HC1 := Lib.hid (fun w => HC.out (u, v, z) w)
      unfold encE at HC1
      simp only at HC1
      have HE := Lib.hid he
      generalize hcv : cmpE (u, v, z) (p, q, x) = cv at HC1
      have HV := Lib.hid hcv
      clear hcv he hk
      go_wp2_with fail
      have e0 : (wr.drewN 1).cell? ⟨b, off + k * 3, none⟩ = some (.int .i64 u) := c0
      have e1 : (wr.drewN 1).cell? ⟨b, off + k * 3 + 1, none⟩ = some (.int .i64 v) := c1
      have e2 : (wr.drewN 1).cell? ⟨b, off + k * 3 + 2, none⟩ = some (.int .i64 z) := c2
      have g0 : (wr.drewN 1).cell? ⟨w.heap.size, 0, none⟩ = some (.int .i64 p) := t0
      have g1 : (wr.drewN 1).cell? ⟨w.heap.size, 1, none⟩ = some (.int .i64 q) := t1
      have g2 : (wr.drewN 1).cell? ⟨w.heap.size, 2, none⟩ = some (.int .i64 x) := t2
      refine wp_region_still_tail 6 (by kernel_rfl) (by kernel_rfl) ?_
      change wpStill _ _ (wr.drewN 1) _ _ _
      change wpStill _ _ _ (fun a' => wpList _ _ _ _ _ (wr.drewN 1)) _ _
      simp only [List.take_succ_cons, List.take_zero, List.drop_succ_cons, List.drop_zero]
      have HB1 : Hid (Below w.heap.size w (wr.drewN 1)) := Lib.hid (below_drewN HB.out 1)
      have H31 : Hid (ThreeAt w.heap.size (wr.drewN 1) (.int .i64 p) (.int .i64 q) (.int .i64 x)) := Lib.hid (three_sameN H3.out rfl)
      clear c0 c1 c2 t0 t1 t2
      have hbr1 : b < (wr.drewN 1).heap.size := hbr
      have htl1 : w.heap.size < (wr.drewN 1).heap.size := htl
      clear hbr htl
      generalize wr.drewN 1 = W1 at *
      iterate 6 still_step
      refine wpStill_nil ?_
      go_wp2_with fail
      refine (HC1.out W1).mono ?_
      rintro e w1 ⟨rfl, hb1⟩
      have HB2 := Lib.hid (HB1.out.trans (hb1.mono HB1.out.size))
      have H32 := Lib.hid (H31.out.on hb1 H31.out.lt)
      clear hb1 HB1 H31
      by_cases hneg : cv < 0
      · have HN := Lib.hid hneg
        go_wp2
        go_roundw
        case rel => exact ⟨k + 1, hi, by go_num, rfl, by have := HKK.out; omega, hin, Lib.hid ⟨HB2.out, H32.out, fun t ht hlt => HM.out t k ht (by have := HKK.out; omega) (by omega) (by rw [HE.out, HV.out]; exact HN.out), HK.out.2.2.2⟩⟩
        case measure => (have := HKK.out; simp [intOf]; omega)
      · have HN := Lib.hid hneg
        go_wp2
        go_roundw
        case rel => exact ⟨lo, k, rfl, rfl, by have := HKK.out; omega, by have := HKK.out; omega, Lib.hid ⟨HB2.out, H32.out, HK.out.2.2.1, bs_none l (p, q, x) k (by have := HKK.out; omega) HM.out (by rw [HE.out, HV.out]; have := HN.out; omega)⟩⟩
        case measure => (have := HKK.out; simp [intOf]; omega)
    · obtain rfl : lo = hi := by omega
      by_cases hlt2 : lo < l.length
      · obtain ⟨u, v, z, he⟩ : ∃ u v z, l[lo] = (u, v, z) := ⟨_, _, _, rfl⟩
        obtain ⟨b, off, rfl, hbw, hbr, c0, c1, c2⟩ := HR.out.cells hlt2 HK.out.1 he
        obtain ⟨t0, t1, t2, -, -, -⟩ := HK.out.2.1
        have htl := HK.out.2.1.lt
        have i0 : (0 : Int) ≤ (lo : Int) := by omega
        have i1 : (lo : Int) < (l.length : Int) := by omega
        have HC1 := Lib.hid (fun w => cmp_any (u, v, z) (p, q, x) w)
        unfold encE at HC1
        simp only at HC1
        generalize cmpE (u, v, z) (p, q, x) = cv at HC1
        clear he
        have HZ := Lib.hid (And.intro HK.out.1 (And.intro HK.out.2.2.1 HK.out.2.2.2))
        have mixed : Tryz.prog.follows .mixedOrders = true := by kernel_rfl
        have e0 := fun n os => cell_grown (a := ⟨b, off + lo * 3, none⟩) hbr c0 n os
        have e1 := fun n os => cell_grown (a := ⟨b, off + lo * 3 + 1, none⟩) hbr c1 n os
        have e2 := fun n os => cell_grown (a := ⟨b, off + lo * 3 + 2, none⟩) hbr c2 n os
        have g0 := fun n os => cell_grown (a := ⟨w.heap.size, 0, none⟩) htl t0 n os
        have g1 := fun n os => cell_grown (a := ⟨w.heap.size, 1, none⟩) htl t1 n os
        have g2 := fun n os => cell_grown (a := ⟨w.heap.size, 2, none⟩) htl t2 n os
        clear c0 c1 c2 t0 t1 t2
        go_wp2_with fail
        go_quiet_grown ((go_at_call 41; exact Calls.grown_of (HC1.out _)))
        go_wp2
        go_ret2
        exact ⟨HZ.out.1.trans ((below_grown wr nq osq).mono HZ.out.1.size), lo, _, rfl, hin, HZ.out.2.1, HZ.out.2.2⟩
      · have HZ := Lib.hid (And.intro HK.out.1 (And.intro HK.out.2.2.1 HK.out.2.2.2))
        go_wp2_with fail
        go_quiet (fail)
        go_wp2
        go_ret2
        exact ⟨below_drewN HZ.out.1 _, lo, false, rfl, hin, HZ.out.2.1, HZ.out.2.2⟩
end Go.Proofs.YtceejjgmepaonaaGreatDoor
/- Contracts of between, Weight. -/
namespace Go.Proofs.YtceejjgmepaonaaGreatDoor
open Go.RowKit Go.ChangeShapes EdPure NtPure NumPure
theorem good_le {M : List Ed} (h : GoodM M) {i j : Nat} (hi : i < M.length) (hj : j < M.length) (hij : i < j) : lt2 M[i] M[j] := List.pairwise_iff_getElem.1 h.1 i j hi hj hij
theorem seek_mono {M : List Ed} (h : GoodM M) (s : Ed) : ∀ i j (hi : i < M.length) (hj : j < M.length), i ≤ j → cmpE M[j] s < 0 → cmpE M[i] s < 0 := by
  intro i j hi hj hij hc
  by_cases e : i = j
  · subst e; exact hc
  · have h1 := good_le h hi hj (by omega)
    rw [cmp_lt] at hc ⊢
    unfold lt2 at h1
    unfold ltE at hc ⊢
    omega
/-- What is found where it would stand. -/
theorem seek_at {n : Int} {M : List Ed} (h : GoodN n M) (p q : Int) {i : Nat} (h1 : ∀ j (hj : j < M.length), j < i → cmpE M[j] (p, q, 0) < 0) (h2 : ∀ j (hj : j < M.length), i ≤ j → 0 ≤ cmpE M[j] (p, q, 0)) :
    if (atE M (i : Int)).1 = p ∧ (atE M (i : Int)).2.1 = q then (atE M (i : Int)).2.2 = wOf M p q else wOf M p q = 0 := by
  have none : (∀ j (hj : j < M.length), i ≤ j → ¬ (M[j].1 = p ∧ M[j].2.1 = q)) → wOf M p q = 0 := by
    intro hn
    refine hasM_no ?_
    cases hh : hasM M p q with
    | false => rfl
    | true =>
      exfalso
      obtain ⟨x, hx, x1, x2⟩ := hasM_iff.1 hh
      obtain ⟨j, hj, rfl⟩ := List.getElem_of_mem hx
      have hw := (h.2.1 _ hx).2.2
      by_cases hji : j < i
      · have := h1 j hj hji
        rw [cmp_lt] at this
        unfold ltE at this
        simp only at this
        omega
      · exact hn j hj (by omega) ⟨x1, x2⟩
  by_cases hi : i < M.length
  · have e : atE M (i : Int) = M[i] := by
      unfold atE
      rw [dif_pos (by omega)]
      rfl
    rw [e]
    split
    · next he => have := (mem_wOf h.1.1 (List.getElem_mem hi)).1; rw [he.1, he.2] at this; exact this.symm
    · next he =>
      refine none fun j hj hij ⟨x1, x2⟩ => ?_
      by_cases eij : i = j
      · subst eij; exact he ⟨x1, x2⟩
      · have hl := good_le h.1 hi hj (by omega)
        have h0 := h2 i hi (Nat.le_refl _)
        have : cmpE M[i] (p, q, 0) < 0 := by
          rw [cmp_lt]
          unfold lt2 at hl
          unfold ltE
          simp only
          omega
        omega
  · have e : atE M (i : Int) = (0, 0, 0) := by unfold atE; rw [dif_neg (by omega)]
    have hz := none fun j hj hij => by omega
    rw [e, hz]
    split <;> rfl
theorem norm_min (u v : Int) : normE (u, v, 0) = (min u v, max u v, 0) := by
  unfold normE
  simp only
  split
  · rw [Int.min_eq_right (by omega), Int.max_eq_left (by omega)]
  · rw [Int.min_eq_left (by omega), Int.max_eq_right (by omega)]
def FoundOut (M : List Ed) (u v : Int) (w : World) (e : Ending) (w' : World) : Prop := Below w.heap.size w w' ∧ ∃ a b, e = .returned (.agg #[.int .i64 a, .int .i64 b, .int .i64 (weiE M u v)])
set_option maxRecDepth 100000 in
set_option maxHeartbeats 1000000 in
theorem between_any (n : Nat) (a : Option Addr) (c : Nat) (M : List Ed) (hM : GoodN n M) (hl : M.length ≤ 1048576) (u v : Int) (w : World) (hR : ReadsE w.heap.size w a M) :
    Calls Tryz.prog 88 #[.slice a M.length c, .int .i64 u, .int .i64 v] w fun e w' => FoundOut M u v w e w' := by
  have HR := Lib.hid hR
  have HM := Lib.hid hM
  have HN := Lib.hid (fun W => normal_any (u, v, 0) W)
  rw [norm_min] at HN
  have HWm : Hid (weiE M u v = wOf M (min u v) (max u v)) := Lib.hid rfl
  generalize min u v = p at *
  generalize max u v = q at *
  unfold encE at HN
  simp only at HN
  clear hR hM
  have HB0 : Hid (Below w.heap.size w (w.alloc (.cells #[.int .i64 0, .int .i64 0, .int .i64 0] 51))) := Lib.hid ((Below.refl _ _).alloc (Nat.le_refl _) _)
  have HT0 : Hid (ThreeAt w.heap.size (w.alloc (.cells #[.int .i64 0, .int .i64 0, .int .i64 0] 51)) (.int .i64 0) (.int .i64 0) (.int .i64 0)) := Lib.hid (ThreeAt.new _ _ _ _ _)
  go_enter Tryz.func88, Tryz.ntmps88
  go_wp2_with fail
  generalize w.alloc (.cells #[.int .i64 0, .int .i64 0, .int .i64 0] 51) = W0 at *
  refine (HN.out W0).mono ?_
  rintro e w1 ⟨rfl, hb1⟩
  have hb2 : Below W0.heap.size W0 (w1.alloc (.cells #[.int .i64 p, .int .i64 q, .int .i64 0] 51)) := hb1.alloc hb1.size _
  have HB2 := Lib.hid (HB0.out.trans (hb2.mono HB0.out.size))
  have HT2 := Lib.hid (HT0.out.on hb2 HT0.out.lt)
  have HS2 := Lib.hid (ThreeAt.new w1 (.int .i64 p) (.int .i64 q) (.int .i64 0) 51)
  have hne : w.heap.size ≠ w1.heap.size := by have := HT0.out.lt; have := hb1.size; omega
  have HNE := Lib.hid hne
  clear hb1 hb2 HB0 HT0 HN hne
  go_upto_region 2 with fail
  generalize w1.alloc (.cells #[.int .i64 p, .int .i64 q, .int .i64 0] 51) = W2 at *
  generalize w1.heap.size = S at *
  obtain ⟨s0, s1, s2, -, -, -⟩ := HS2.out
  have hsl := HS2.out.lt
  go_wp2_with fail
  refine (search_any a c M hl p q 0 W2 (HR.out.over HB2.out (Nat.le_refl _)) (seek_mono HM.out.1 (p, q, 0))).mono ?_
  rintro e w3 ⟨hb3, i, bb, rfl, hi, hlo, hhi⟩
  have HF := Lib.hid (seek_at HM.out p q hlo hhi)
  rw [← HWm.out] at HF
  have HB3 := Lib.hid (HB2.out.trans (hb3.mono HB2.out.size))
  have HT3 := Lib.hid (HT2.out.on hb3 HT2.out.lt)
  have HS3 := Lib.hid (HS2.out.on hb3 HS2.out.lt)
  clear hb3 hlo hhi HB2 HT2 HS2 s0 s1 s2 hsl
  obtain ⟨wt, hwt⟩ : ∃ wt, weiE M u v = wt := ⟨_, rfl⟩
  have HWt := Lib.hid hwt
  rw [hwt] at HF
  clear hwt HWm
  obtain ⟨x0, x1, x2, hx⟩ : ∃ x0 x1 x2, atE M (i : Int) = (x0, x1, x2) := ⟨_, _, _, rfl⟩
  have HC := Lib.hid (numbered_any a c M (i : Int) w3 (HR.out.over HB3.out (Nat.le_refl _)))
  rw [hx] at HC HF
  unfold encE at HC
  simp only at HC HF
  generalize inE M (i : Int) = bi at *
  clear hx
  go_wp2_with fail
  refine HC.out.mono ?_
  rintro e w4 ⟨rfl, hb4⟩
  have hb5 : Below w3.heap.size w3 (w4.alloc (.cells #[.int .i64 x0, .int .i64 x1, .int .i64 x2] 51)) := hb4.alloc hb4.size _
  have HB5 := Lib.hid (HB3.out.trans (hb5.mono HB3.out.size))
  have HT5 := Lib.hid (HT3.out.on hb5 HT3.out.lt)
  have HS5 := Lib.hid (HS3.out.on hb5 HS3.out.lt)
  have HE5 := Lib.hid (ThreeAt.new w4 (.int .i64 x0) (.int .i64 x1) (.int .i64 x2) 51)
  clear hb4 hb5 HB3 HT3 HS3 HC
  go_upto_region 4 with fail
  generalize w4.alloc (.cells #[.int .i64 x0, .int .i64 x1, .int .i64 x2] 51) = W5 at *
  generalize w4.heap.size = E at *
  obtain ⟨t0, t1, t2, f0, f1, f2⟩ := HT5.out
  obtain ⟨s0, s1, s2, -, -, -⟩ := HS5.out
  obtain ⟨e0, e1, e2, -, -, -⟩ := HE5.out
  have htl := HT5.out.lt
  have hsl := HS5.out.lt
  have hel := HE5.out.lt
  have done : ∀ y0 y1, Hid (Below w.heap.size w (((W5.setCell ⟨w.heap.size, 0, none⟩ (.int .i64 y0)).setCell ⟨w.heap.size, 1, none⟩ (.int .i64 y1)).setCell ⟨w.heap.size, 2, none⟩ (.int .i64 wt)) ∧
      ThreeAt w.heap.size (((W5.setCell ⟨w.heap.size, 0, none⟩ (.int .i64 y0)).setCell ⟨w.heap.size, 1, none⟩ (.int .i64 y1)).setCell ⟨w.heap.size, 2, none⟩ (.int .i64 wt)) (.int .i64 y0) (.int .i64 y1) (.int .i64 wt)) := fun y0 y1 =>
    Lib.hid ⟨((HB5.out.setCell (p := ⟨w.heap.size, 0, none⟩) (Nat.le_refl _) _).setCell (p := ⟨w.heap.size, 1, none⟩) (Nat.le_refl _) _).setCell (p := ⟨w.heap.size, 2, none⟩) (Nat.le_refl _) _, HT5.out.set _ _ _⟩
  by_cases h1 : x0 = p
  · by_cases h2 : x1 = q
    · have hf := HF.out
      rw [if_pos ⟨h1, h2⟩] at hf
      subst h1 h2 hf
      have HD := done x0 x1
      clear done HF
      go_wp2
      obtain ⟨d0, d1, d2, -, -, -⟩ := HD.out.2
      exact bodyPost_ret (v := .agg #[.int .i64 x0, .int .i64 x1, .int .i64 x2]) (by simp [results, Tryz.results88, go_sem, d0, d1, d2]) rfl ⟨HD.out.1, x0, x1, by rw [HWt.out]⟩
    · have hf := HF.out
      rw [if_neg (fun h => h2 h.2)] at hf
      subst h1 hf
      have HD := done 0 0
      clear done HF
      have t : (x1 != q) = true := by simpa using h2
      go_wp2
      obtain ⟨d0, d1, d2, -, -, -⟩ := HD.out.2
      exact bodyPost_ret (v := .agg #[.int .i64 0, .int .i64 0, .int .i64 0]) (by simp [results, Tryz.results88, go_sem, d0, d1, d2]) rfl ⟨HD.out.1, 0, 0, by rw [HWt.out]⟩
  · have hf := HF.out
    rw [if_neg (fun h => h1 h.1)] at hf
    subst hf
    have HD := done 0 0
    clear done HF
    have t : (x0 != p) = true := by simpa using h1
    go_wp2
    obtain ⟨d0, d1, d2, -, -, -⟩ := HD.out.2
    exact bodyPost_ret (v := .agg #[.int .i64 0, .int .i64 0, .int .i64 0]) (by simp [results, Tryz.results88, go_sem, d0, d1, d2]) rfl ⟨HD.out.1, 0, 0, by rw [HWt.out]⟩
set_option maxRecDepth 100000 in
theorem weight_any (p : Option Addr) (n : Nat) (M : List Ed) (hM : GoodN n M) (hl : M.length ≤ 1048576) (u v : Int) (w : World) (h : NetAt p n M w) :
    Calls Tryz.prog 65 #[.pointer p, .int .i64 u, .int .i64 v] w fun e w' => e = .returned (.int .i64 (weiE M u v)) ∧ Below w.heap.size w w' := by
  have HN := Lib.hid h
  have HM := Lib.hid hM
  clear h hM
  go_enter Tryz.func65, Tryz.ntmps65
  go_wp2_with fail
  refine (nparts_any p n M w HN.out).mono ?_
  rintro e w1 ⟨hb, pv, cv, pe, ce, rfl, hr, -⟩
  have HB := Lib.hid hb
  have HR := Lib.hid hr
  clear hb hr HN
  go_wp2_with (first | (go_at_call 88; refine (between_any n pe ce M HM.out hl u v w1 HR.out).mono ?_; rintro e w2 ⟨hb2, y0, y1, rfl⟩; have HB2 := Lib.hid (HB.out.trans (hb2.mono HB.out.size)); clear hb2))
  go_ret
  exact ⟨rfl, HB2.out⟩
end Go.Proofs.YtceejjgmepaonaaGreatDoor
