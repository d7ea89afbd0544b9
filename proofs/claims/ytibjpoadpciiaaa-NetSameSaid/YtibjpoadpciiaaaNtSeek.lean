/- Contracts of the search by halves, between, Weight. -/
import Derived.Test.YtibjpoadpciiaaaNtAsk2
namespace Go.Proofs.Ytibjpoadpciiaaa
open Go.RowKit Go.ChangeShapes EdPure NtPure NumPure
theorem cmpB_any (a b : Ed) (w : World) : Calls Try.prog 40 #[encE a, encE b] w fun e w' => e = .returned (.int .i64 (cmpE a b)) ∧ Below w.heap.size w w' := by
  refine (cmp_any a b w).mono ?_
  rintro e w' ⟨rfl, q, os, rfl⟩
  exact ⟨rfl, rfl, rfl, rfl, by simp [Go.Sort.grow, World.drewN], fun k hk => by
    show (w.heap ++ os)[k]? = w.heap[k]?
    rw [Array.getElem?_append_left hk]⟩
theorem below_grown (w : World) (q : Nat) (os : Array Obj) : Below w.heap.size w (Go.Sort.grow (w.drewN q) os) :=
  ⟨rfl, rfl, rfl, by simp [Go.Sort.grow, World.drewN], fun k hk => by
    show (w.heap ++ os)[k]? = w.heap[k]?
    rw [Array.getElem?_append_left hk]⟩
/-- While it is sought. -/
def BsRel (w : World) (l : List Ed) (p q x : Int) (lo hi : Nat) (wr : World) : Prop :=
  Below w.heap.size w wr ∧ ThreeAt w.heap.size wr (.int .i64 p) (.int .i64 q) (.int .i64 x) ∧ (∀ t (h : t < l.length), t < lo → cmpE l[t] (p, q, x) < 0) ∧ ∀ t (h : t < l.length), hi ≤ t → 0 ≤ cmpE l[t] (p, q, x)
def BsOut (l : List Ed) (t : Ed) (w : World) (e : Ending) (w' : World) : Prop :=
  Below w.heap.size w w' ∧ ∃ (i : Nat) (b : Bool), e = .returned (.tuple #[.int .i64 (i : Int), .bool b]) ∧ i ≤ l.length ∧ (∀ j (h : j < l.length), j < i → cmpE l[j] t < 0) ∧ ∀ j (h : j < l.length), i ≤ j → 0 ≤ cmpE l[j] t
theorem bs_none (l : List Ed) (t : Ed) (j : Nat) (hj : j < l.length) (hm : ∀ i j (hi : i < l.length) (hj : j < l.length), i ≤ j → cmpE l[j] t < 0 → cmpE l[i] t < 0) (h : ¬ cmpE l[j] t < 0) : ∀ k (hk : k < l.length), j ≤ k → 0 ≤ cmpE l[k] t :=
  fun k hk hjk => Int.not_lt.1 fun h2 => h (hm j k hj hk hjk h2)
set_option maxRecDepth 100000 in
set_option maxHeartbeats 1000000 in
theorem search_any (a : Option Addr) (c : Nat) (l : List Ed) (hl : l.length ≤ 1048576) (p q x : Int) (w : World) (hR : ReadsE w.heap.size w a l) (hm : ∀ i j (hi : i < l.length) (hj : j < l.length), i ≤ j → cmpE l[j] (p, q, x) < 0 → cmpE l[i] (p, q, x) < 0) :
    Calls Try.prog 46 #[.slice a l.length c, encE (p, q, x), .func (.func 40) #[] #[]] w fun e w' => BsOut l (p, q, x) w e w' := by
  have HR := Lib.hid hR
  have HM := Lib.hid hm
  have HC := Lib.hid (fun y w => cmpB_any y (p, q, x) w)
  have HS : Hid (BsRel w l p q x 0 l.length (w.alloc (.cells #[.int .i64 p, .int .i64 q, .int .i64 x] 35))) := Lib.hid ⟨(Below.refl _ _).alloc (Nat.le_refl _) _, ThreeAt.new _ _ _ _ _, fun t _ h => by omega, fun t h h2 => by omega⟩
  clear hR hm
  unfold encE
  simp only
  go_enter Try.func46, Try.ntmps46
  go_wp2
  go_loopw [9, 10] (fun s9 s10 wr => ∃ lo hi : Nat, s9 = .int .i64 lo ∧ s10 = .int .i64 hi ∧ lo ≤ hi ∧ hi ≤ l.length ∧ Hid (BsRel w l p q x lo hi wr)) (fun s9 s10 _ => (intOf s10).toNat - (intOf s9).toNat)
  case atStart => exact ⟨0, l.length, rfl, rfl, Nat.zero_le _, Nat.le_refl _, HS⟩
  case round =>
    obtain ⟨lo, hi, rfl, rfl, hlh, hin, HK⟩ := hrel
    clear HS
    by_cases hlt : lo < hi
    · have hy : (lo + hi) / 2 < l.length := by omega
      obtain ⟨u, v, z, he⟩ : ∃ u v z, l[(lo + hi) / 2] = (u, v, z) := ⟨_, _, _, rfl⟩
      obtain ⟨b, off, rfl, hbw, hbr, c0, c1, c2⟩ := HR.out.cells hy HK.out.1 he
      obtain ⟨t0, t1, t2, -, -, -⟩ := HK.out.2.1
      have htl := HK.out.2.1.lt
      generalize hk : (lo + hi) / 2 = k at *
      have hkk : ((lo : Int) + (hi : Int)) / 2 = (k : Int) := by omega
      have i0 : (0 : Int) ≤ (k : Int) := by omega
      have i1 : (k : Int) < (l.length : Int) := by omega
      have HKK : Hid (lo ≤ k ∧ k < hi) := Lib.hid (by omega)
      have HB : Hid (Below w.heap.size w wr) := Lib.hid HK.out.1
      have H3 : Hid (ThreeAt w.heap.size wr (.int .i64 p) (.int .i64 q) (.int .i64 x)) := Lib.hid HK.out.2.1
      have HC1 := Lib.hid (fun w => HC.out (u, v, z) w)
      unfold encE at HC1
      simp only at HC1
      have HE := Lib.hid he
      generalize hcv : cmpE (u, v, z) (p, q, x) = cv at HC1
      have HV := Lib.hid hcv
      clear hcv he hk
      go_wp2_with fail
      have e0 : (wr.drewN 1).cell? ⟨b, off + k * 3, none⟩ = some (.int .i64 u) := c0
      have e1 : (wr.drewN 1).cell? ⟨b, off + k * 3 + 1, none⟩ = some (.int .i64 v) := c1
      have e2 : (wr.drewN 1).cell? ⟨b, off + k * 3 + 2, none⟩ = some (.int .i64 z) := c2
      have g0 : (wr.drewN 1).cell? ⟨w.heap.size, 0, none⟩ = some (.int .i64 p) := t0
      have g1 : (wr.drewN 1).cell? ⟨w.heap.size, 1, none⟩ = some (.int .i64 q) := t1
      have g2 : (wr.drewN 1).cell? ⟨w.heap.size, 2, none⟩ = some (.int .i64 x) := t2
      refine wp_region_still_tail 6 (by kernel_rfl) (by kernel_rfl) ?_
      change wpStill _ _ (wr.drewN 1) _ _ _
      change wpStill _ _ _ (fun a' => wpList _ _ _ _ _ (wr.drewN 1)) _ _
      simp only [List.take_succ_cons, List.take_zero, List.drop_succ_cons, List.drop_zero]
      have HB1 : Hid (Below w.heap.size w (wr.drewN 1)) := Lib.hid (below_drewN HB.out 1)
      have H31 : Hid (ThreeAt w.heap.size (wr.drewN 1) (.int .i64 p) (.int .i64 q) (.int .i64 x)) := Lib.hid (three_sameN H3.out rfl)
      clear c0 c1 c2 t0 t1 t2
      have hbr1 : b < (wr.drewN 1).heap.size := hbr
      have htl1 : w.heap.size < (wr.drewN 1).heap.size := htl
      clear hbr htl
      generalize wr.drewN 1 = W1 at *
      iterate 6 still_step
      refine wpStill_nil ?_
      go_wp2_with fail
      refine (HC1.out W1).mono ?_
      rintro e w1 ⟨rfl, hb1⟩
      have HB2 := Lib.hid (HB1.out.trans (hb1.mono HB1.out.size))
      have H32 := Lib.hid (H31.out.on hb1 H31.out.lt)
      clear hb1 HB1 H31
      by_cases hneg : cv < 0
      · have HN := Lib.hid hneg
        go_wp2
        go_roundw
        case rel => exact ⟨k + 1, hi, by go_num, rfl, by have := HKK.out; omega, hin, Lib.hid ⟨HB2.out, H32.out, fun t ht hlt => HM.out t k ht (by have := HKK.out; omega) (by omega) (by rw [HE.out, HV.out]; exact HN.out), HK.out.2.2.2⟩⟩
        case measure => (have := HKK.out; simp [intOf]; omega)
      · have HN := Lib.hid hneg
        go_wp2
        go_roundw
        case rel => exact ⟨lo, k, rfl, rfl, by have := HKK.out; omega, by have := HKK.out; omega, Lib.hid ⟨HB2.out, H32.out, HK.out.2.2.1, bs_none l (p, q, x) k (by have := HKK.out; omega) HM.out (by rw [HE.out, HV.out]; have := HN.out; omega)⟩⟩
        case measure => (have := HKK.out; simp [intOf]; omega)
    · obtain rfl : lo = hi := by omega
      by_cases hlt2 : lo < l.length
      · obtain ⟨u, v, z, he⟩ : ∃ u v z, l[lo] = (u, v, z) := ⟨_, _, _, rfl⟩
        obtain ⟨b, off, rfl, hbw, hbr, c0, c1, c2⟩ := HR.out.cells hlt2 HK.out.1 he
        obtain ⟨t0, t1, t2, -, -, -⟩ := HK.out.2.1
        have htl := HK.out.2.1.lt
        have i0 : (0 : Int) ≤ (lo : Int) := by omega
        have i1 : (lo : Int) < (l.length : Int) := by omega
        have HC1 := Lib.hid (fun w => cmp_any (u, v, z) (p, q, x) w)
        unfold encE at HC1
        simp only at HC1
        generalize cmpE (u, v, z) (p, q, x) = cv at HC1
        clear he
        have HZ := Lib.hid (And.intro HK.out.1 (And.intro HK.out.2.2.1 HK.out.2.2.2))
        have mixed : Try.prog.follows .mixedOrders = true := by kernel_rfl
        have e0 := fun n os => cell_grown (a := ⟨b, off + lo * 3, none⟩) hbr c0 n os
        have e1 := fun n os => cell_grown (a := ⟨b, off + lo * 3 + 1, none⟩) hbr c1 n os
        have e2 := fun n os => cell_grown (a := ⟨b, off + lo * 3 + 2, none⟩) hbr c2 n os
        have g0 := fun n os => cell_grown (a := ⟨w.heap.size, 0, none⟩) htl t0 n os
        have g1 := fun n os => cell_grown (a := ⟨w.heap.size, 1, none⟩) htl t1 n os
        have g2 := fun n os => cell_grown (a := ⟨w.heap.size, 2, none⟩) htl t2 n os
        clear c0 c1 c2 t0 t1 t2
        go_wp2_with fail
        go_quiet_grown ((go_at_call 40; exact Calls.grown_of (HC1.out _)))
        go_wp2
        go_ret2
        exact ⟨HZ.out.1.trans ((below_grown wr nq osq).mono HZ.out.1.size), lo, _, rfl, hin, HZ.out.2.1, HZ.out.2.2⟩
      · have HZ := Lib.hid (And.intro HK.out.1 (And.intro HK.out.2.2.1 HK.out.2.2.2))
        go_wp2_with fail
        go_quiet (fail)
        go_wp2
        go_ret2
        exact ⟨below_drewN HZ.out.1 _, lo, false, rfl, hin, HZ.out.2.1, HZ.out.2.2⟩
end Go.Proofs.Ytibjpoadpciiaaa
