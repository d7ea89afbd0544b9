/- Contracts of between, Weight. -/
import Derived.Test.YtibjpoadpciiaaaNtSeek
namespace Go.Proofs.Ytibjpoadpciiaaa
open Go.RowKit Go.ChangeShapes EdPure NtPure NumPure
theorem good_le {M : List Ed} (h : GoodM M) {i j : Nat} (hi : i < M.length) (hj : j < M.length) (hij : i < j) : lt2 M[i] M[j] := List.pairwise_iff_getElem.1 h.1 i j hi hj hij
theorem seek_mono {M : List Ed} (h : GoodM M) (s : Ed) : ∀ i j (hi : i < M.length) (hj : j < M.length), i ≤ j → cmpE M[j] s < 0 → cmpE M[i] s < 0 := by
  intro i j hi hj hij hc
  by_cases e : i = j
  · subst e; exact hc
  · have h1 := good_le h hi hj (by omega)
    rw [cmp_lt] at hc ⊢
    unfold lt2 at h1
    unfold ltE at hc ⊢
    omega
/-- What is found where it would stand. -/
theorem seek_at {n : Int} {M : List Ed} (h : GoodN n M) (p q : Int) {i : Nat} (h1 : ∀ j (hj : j < M.length), j < i → cmpE M[j] (p, q, 0) < 0) (h2 : ∀ j (hj : j < M.length), i ≤ j → 0 ≤ cmpE M[j] (p, q, 0)) :
    if (atE M (i : Int)).1 = p ∧ (atE M (i : Int)).2.1 = q then (atE M (i : Int)).2.2 = wOf M p q else wOf M p q = 0 := by
  have none : (∀ j (hj : j < M.length), i ≤ j → ¬ (M[j].1 = p ∧ M[j].2.1 = q)) → wOf M p q = 0 := by
    intro hn
    refine hasM_no ?_
    cases hh : hasM M p q with
    | false => rfl
    | true =>
      exfalso
      obtain ⟨x, hx, x1, x2⟩ := hasM_iff.1 hh
      obtain ⟨j, hj, rfl⟩ := List.getElem_of_mem hx
      have hw := (h.2.1 _ hx).2.2
      by_cases hji : j < i
      · have := h1 j hj hji
        rw [cmp_lt] at this
        unfold ltE at this
        simp only at this
        omega
      · exact hn j hj (by omega) ⟨x1, x2⟩
  by_cases hi : i < M.length
  · have e : atE M (i : Int) = M[i] := by
      unfold atE
      rw [dif_pos (by omega)]
      rfl
    rw [e]
    split
    · next he => have := (mem_wOf h.1.1 (List.getElem_mem hi)).1; rw [he.1, he.2] at this; exact this.symm
    · next he =>
      refine none fun j hj hij ⟨x1, x2⟩ => ?_
      by_cases eij : i = j
      · subst eij; exact he ⟨x1, x2⟩
      · have hl := good_le h.1 hi hj (by omega)
        have h0 := h2 i hi (Nat.le_refl _)
        have : cmpE M[i] (p, q, 0) < 0 := by
          rw [cmp_lt]
          unfold lt2 at hl
          unfold ltE
          simp only
          omega
        omega
  · have e : atE M (i : Int) = (0, 0, 0) := by unfold atE; rw [dif_neg (by omega)]
    have hz := none fun j hj hij => by omega
    rw [e, hz]
    split <;> rfl
theorem norm_min (u v : Int) : normE (u, v, 0) = (min u v, max u v, 0) := by
  unfold normE
  simp only
  split
  · rw [Int.min_eq_right (by omega), Int.max_eq_left (by omega)]
  · rw [Int.min_eq_left (by omega), Int.max_eq_right (by omega)]
def FoundOut (M : List Ed) (u v : Int) (w : World) (e : Ending) (w' : World) : Prop := Below w.heap.size w w' ∧ ∃ a b, e = .returned (.agg #[.int .i64 a, .int .i64 b, .int .i64 (weiE M u v)])
set_option maxRecDepth 100000 in
set_option maxHeartbeats 1000000 in
theorem between_any (n : Nat) (a : Option Addr) (c : Nat) (M : List Ed) (hM : GoodN n M) (hl : M.length ≤ 1048576) (u v : Int) (w : World) (hR : ReadsE w.heap.size w a M) :
    Calls Try.prog 32 #[.slice a M.length c, .int .i64 u, .int .i64 v] w fun e w' => FoundOut M u v w e w' := by
  have HR := Lib.hid hR
  have HM := Lib.hid hM
  have HN := Lib.hid (fun W => normal_any (u, v, 0) W)
  rw [norm_min] at HN
  have HWm : Hid (weiE M u v = wOf M (min u v) (max u v)) := Lib.hid rfl
  generalize min u v = p at *
  generalize max u v = q at *
  unfold encE at HN
  simp only at HN
  clear hR hM
  have HB0 : Hid (Below w.heap.size w (w.alloc (.cells #[.int .i64 0, .int .i64 0, .int .i64 0] 35))) := Lib.hid ((Below.refl _ _).alloc (Nat.le_refl _) _)
  have HT0 : Hid (ThreeAt w.heap.size (w.alloc (.cells #[.int .i64 0, .int .i64 0, .int .i64 0] 35)) (.int .i64 0) (.int .i64 0) (.int .i64 0)) := Lib.hid (ThreeAt.new _ _ _ _ _)
  go_enter Try.func32, Try.ntmps32
  go_wp2_with fail
  generalize w.alloc (.cells #[.int .i64 0, .int .i64 0, .int .i64 0] 35) = W0 at *
  refine (HN.out W0).mono ?_
  rintro e w1 ⟨rfl, hb1⟩
  have hb2 : Below W0.heap.size W0 (w1.alloc (.cells #[.int .i64 p, .int .i64 q, .int .i64 0] 35)) := hb1.alloc hb1.size _
  have HB2 := Lib.hid (HB0.out.trans (hb2.mono HB0.out.size))
  have HT2 := Lib.hid (HT0.out.on hb2 HT0.out.lt)
  have HS2 := Lib.hid (ThreeAt.new w1 (.int .i64 p) (.int .i64 q) (.int .i64 0) 35)
  have hne : w.heap.size ≠ w1.heap.size := by have := HT0.out.lt; have := hb1.size; omega
  have HNE := Lib.hid hne
  clear hb1 hb2 HB0 HT0 HN hne
  go_upto_region 2 with fail
  generalize w1.alloc (.cells #[.int .i64 p, .int .i64 q, .int .i64 0] 35) = W2 at *
  generalize w1.heap.size = S at *
  obtain ⟨s0, s1, s2, -, -, -⟩ := HS2.out
  have hsl := HS2.out.lt
  go_wp2_with fail
  refine (search_any a c M hl p q 0 W2 (HR.out.over HB2.out (Nat.le_refl _)) (seek_mono HM.out.1 (p, q, 0))).mono ?_
  rintro e w3 ⟨hb3, i, bb, rfl, hi, hlo, hhi⟩
  have HF := Lib.hid (seek_at HM.out p q hlo hhi)
  rw [← HWm.out] at HF
  have HB3 := Lib.hid (HB2.out.trans (hb3.mono HB2.out.size))
  have HT3 := Lib.hid (HT2.out.on hb3 HT2.out.lt)
  have HS3 := Lib.hid (HS2.out.on hb3 HS2.out.lt)
  clear hb3 hlo hhi HB2 HT2 HS2 s0 s1 s2 hsl
  obtain ⟨wt, hwt⟩ : ∃ wt, weiE M u v = wt := ⟨_, rfl⟩
  have HWt := Lib.hid hwt
  rw [hwt] at HF
  clear hwt HWm
  obtain ⟨x0, x1, x2, hx⟩ : ∃ x0 x1 x2, atE M (i : Int) = (x0, x1, x2) := ⟨_, _, _, rfl⟩
  have HC := Lib.hid (numbered_any a c M (i : Int) w3 (HR.out.over HB3.out (Nat.le_refl _)))
  rw [hx] at HC HF
  unfold encE at HC
  simp only at HC HF
  generalize inE M (i : Int) = bi at *
  clear hx
  go_wp2_with fail
  refine HC.out.mono ?_
  rintro e w4 ⟨rfl, hb4⟩
  have hb5 : Below w3.heap.size w3 (w4.alloc (.cells #[.int .i64 x0, .int .i64 x1, .int .i64 x2] 35)) := hb4.alloc hb4.size _
  have HB5 := Lib.hid (HB3.out.trans (hb5.mono HB3.out.size))
  have HT5 := Lib.hid (HT3.out.on hb5 HT3.out.lt)
  have HS5 := Lib.hid (HS3.out.on hb5 HS3.out.lt)
  have HE5 := Lib.hid (ThreeAt.new w4 (.int .i64 x0) (.int .i64 x1) (.int .i64 x2) 35)
  clear hb4 hb5 HB3 HT3 HS3 HC
  go_upto_region 4 with fail
  generalize w4.alloc (.cells #[.int .i64 x0, .int .i64 x1, .int .i64 x2] 35) = W5 at *
  generalize w4.heap.size = E at *
  obtain ⟨t0, t1, t2, f0, f1, f2⟩ := HT5.out
  obtain ⟨s0, s1, s2, -, -, -⟩ := HS5.out
  obtain ⟨e0, e1, e2, -, -, -⟩ := HE5.out
  have htl := HT5.out.lt
  have hsl := HS5.out.lt
  have hel := HE5.out.lt
  have done : ∀ y0 y1, Hid (Below w.heap.size w (((W5.setCell ⟨w.heap.size, 0, none⟩ (.int .i64 y0)).setCell ⟨w.heap.size, 1, none⟩ (.int .i64 y1)).setCell ⟨w.heap.size, 2, none⟩ (.int .i64 wt)) ∧
      ThreeAt w.heap.size (((W5.setCell ⟨w.heap.size, 0, none⟩ (.int .i64 y0)).setCell ⟨w.heap.size, 1, none⟩ (.int .i64 y1)).setCell ⟨w.heap.size, 2, none⟩ (.int .i64 wt)) (.int .i64 y0) (.int .i64 y1) (.int .i64 wt)) := fun y0 y1 =>
    Lib.hid ⟨((HB5.out.setCell (p := ⟨w.heap.size, 0, none⟩) (Nat.le_refl _) _).setCell (p := ⟨w.heap.size, 1, none⟩) (Nat.le_refl _) _).setCell (p := ⟨w.heap.size, 2, none⟩) (Nat.le_refl _) _, HT5.out.set _ _ _⟩
  by_cases h1 : x0 = p
  · by_cases h2 : x1 = q
    · have hf := HF.out
      rw [if_pos ⟨h1, h2⟩] at hf
      subst h1 h2 hf
      have HD := done x0 x1
      clear done HF
      go_wp2
      obtain ⟨d0, d1, d2, -, -, -⟩ := HD.out.2
      exact bodyPost_ret (v := .agg #[.int .i64 x0, .int .i64 x1, .int .i64 x2]) (by simp [results, Try.results32, go_sem, d0, d1, d2]) rfl ⟨HD.out.1, x0, x1, by rw [HWt.out]⟩
    · have hf := HF.out
      rw [if_neg (fun h => h2 h.2)] at hf
      subst h1 hf
      have HD := done 0 0
      clear done HF
      have t : (x1 != q) = true := by simpa using h2
      go_wp2
      obtain ⟨d0, d1, d2, -, -, -⟩ := HD.out.2
      exact bodyPost_ret (v := .agg #[.int .i64 0, .int .i64 0, .int .i64 0]) (by simp [results, Try.results32, go_sem, d0, d1, d2]) rfl ⟨HD.out.1, 0, 0, by rw [HWt.out]⟩
  · have hf := HF.out
    rw [if_neg (fun h => h1 h.1)] at hf
    subst hf
    have HD := done 0 0
    clear done HF
    have t : (x0 != p) = true := by simpa using h1
    go_wp2
    obtain ⟨d0, d1, d2, -, -, -⟩ := HD.out.2
    exact bodyPost_ret (v := .agg #[.int .i64 0, .int .i64 0, .int .i64 0]) (by simp [results, Try.results32, go_sem, d0, d1, d2]) rfl ⟨HD.out.1, 0, 0, by rw [HWt.out]⟩
set_option maxRecDepth 100000 in
theorem weight_any (p : Option Addr) (n : Nat) (M : List Ed) (hM : GoodN n M) (hl : M.length ≤ 1048576) (u v : Int) (w : World) (h : NetAt p n M w) :
    Calls Try.prog 14 #[.pointer p, .int .i64 u, .int .i64 v] w fun e w' => e = .returned (.int .i64 (weiE M u v)) ∧ Below w.heap.size w w' := by
  have HN := Lib.hid h
  have HM := Lib.hid hM
  clear h hM
  go_enter Try.func14, Try.ntmps14
  go_wp2_with fail
  refine (parts_any p n M w HN.out).mono ?_
  rintro e w1 ⟨hb, pv, cv, pe, ce, rfl, hr, -⟩
  have HB := Lib.hid hb
  have HR := Lib.hid hr
  clear hb hr HN
  go_wp2_with (first | (go_at_call 32; refine (between_any n pe ce M HM.out hl u v w1 HR.out).mono ?_; rintro e w2 ⟨hb2, y0, y1, rfl⟩; have HB2 := Lib.hid (HB.out.trans (hb2.mono HB.out.size)); clear hb2))
  go_ret
  exact ⟨rfl, HB2.out⟩
end Go.Proofs.Ytibjpoadpciiaaa
