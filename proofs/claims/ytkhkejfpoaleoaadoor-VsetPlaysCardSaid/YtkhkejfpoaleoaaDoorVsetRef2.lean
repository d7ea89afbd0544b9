/- The document's answers of layer 9: whether two lists are the same, and the other set. -/
import Derived.Test.YtkhkejfpoaleoaaDoorVsetRef
namespace Go.Proofs.YtkhkejfpoaleoaaDoor
open Go.RowKit Go.ChangeShapes VsetPure
def EqRelN (l r : List Nat) (w0 : World) (k : Nat) (w : World) : Prop := k ≤ l.length ∧ (∃ m, w = w0.drewN m) ∧ l.take k = r.take k
theorem intsRef_any (a a' : Option Addr) (c1 c2 : Nat) (l r : List Nat) (w : World) (h1 : ReadsL encN w.heap.size w a l) (h2 : ReadsL encN w.heap.size w a' r) (hl1 : l.length ≤ 1000000) :
    Calls Tryd.prog 21 #[.slice a l.length c1, .slice a' r.length c2] w fun e w' => e = .returned (.bool (decide (l = r))) ∧ ∃ m, w' = w.drewN m := by
  have H1 := Lib.hid h1
  have H2 := Lib.hid h2
  clear h1 h2
  by_cases hn : l.length = r.length
  · have t : ((l.length : Int) != (r.length : Int)) = false := by simp [hn]
    have HN := Lib.hid hn
    go_enter Tryd.func21, Tryd.ntmps21
    clear hn
    go_wp2
    go_loopw [5] (fun i wr => ∃ k : Nat, i = .int .i64 k ∧ Hid (EqRelN l r w k wr)) (fun i _ => l.length - (intOf i).toNat)
    case atStart => exact ⟨0, rfl, Lib.hid ⟨Nat.zero_le _, ⟨0, rfl⟩, rfl⟩⟩
    case round =>
      obtain ⟨k, rfl, HK⟩ := hrel
      have hk := HK.out.1
      obtain ⟨m, rfl⟩ := HK.out.2.1
      have i0 : (0 : Int) ≤ (k : Int) := by omega
      by_cases hlt : k < l.length
      · have hlt2 : k < r.length := by have := HN.out; omega
        have i1 : (k : Int) < (l.length : Int) := by omega
        have i2 : (k : Int) < (r.length : Int) := by omega
        obtain ⟨b, off, rfl, hbN, d1⟩ := H1.out.at hlt
        obtain ⟨b', off', rfl, hbN', d2⟩ := H2.out.at hlt2
        unfold encN at d1 d2
        by_cases he : l[k] = r[k]
        · have hN : Hid (l.take (k + 1) = r.take (k + 1)) := Lib.hid (by rw [take_snoc l k hlt, take_snoc r k hlt2, HK.out.2.2, he])
          rw [he] at d1
          clear he
          generalize r[k] = x at *
          go_wp2
          go_quiet (fail)
          go_wp2
          go_roundw
          case rel => exact ⟨k + 1, by go_num, Lib.hid ⟨by omega, ⟨_, rfl⟩, hN.out⟩⟩
          case measure => (simp [intOf] <;> omega)
        · have hN : Hid (decide (l = r) = false) := Lib.hid (by refine decide_eq_false (fun h => he ?_); subst h; rfl)
          have t2 : (((l[k] : Nat) : Int) != ((r[k] : Nat) : Int)) = true := by
            have : ((l[k] : Nat) : Int) ≠ ((r[k] : Nat) : Int) := fun e => he (by omega)
            simpa using this
          clear he
          generalize l[k] = x at *
          generalize r[k] = y at *
          go_wp2
          go_quiet (fail)
          go_wp2
          go_ret
          exact ⟨bool_ret hN.out.symm, _, World.drewN_drewN _ _ _⟩
      · have hke : k = l.length := by omega
        have hfin : l = r := by
          have := HK.out.2.2
          rw [hke, List.take_length, HN.out, List.take_length] at this
          exact this
        have HF := Lib.hid hfin
        clear hfin
        go_wp2
        go_ret
        exact ⟨bool_ret (by rw [decide_eq_true HF.out]), _, rfl⟩
  · have t : ((l.length : Int) != (r.length : Int)) = true := by
      have : (l.length : Int) ≠ (r.length : Int) := fun e => hn (by omega)
      simpa using this
    have HN : Hid (decide (l = r) = false) := Lib.hid (decide_eq_false (fun e => hn (by rw [e])))
    clear hn
    go_enter Tryd.func21, Tryd.ntmps21
    go_wp2
    go_ret
    exact ⟨bool_ret HN.out.symm, 0, rfl⟩
/-- At the head of a round: the first k places of the new set are laid. -/
def ORel (w0 : World) (B C h m : Nat) (a : Option Addr) (cap : Nat) (p : Nat → Bool) (k : Nat) (w : World) : Prop :=
  k ≤ m ∧ Below w0.heap.size w0 w ∧ TwoAt B w (.int .i64 (m : Int)) (.slice a m cap) ∧ TwoAt C w (.int .i64 (m : Int)) (.slice (some ⟨h, 0, none⟩) m m) ∧ (∃ u v, TwoAt (B + 1) w u v) ∧ RefAt w a m p ∧ B ≠ h ∧ C ≠ h ∧ B + 1 ≠ h ∧ w0.heap.size ≤ h ∧ h < w.heap.size ∧
    RowIs h w ((inL m (fun v => decide (v < k) && !p v)).map encB) ∧ RefAt w0 a m p
theorem ORel.step {w0 w : World} {B C h m k cap : Nat} {a : Option Addr} {p : Nat → Bool} (hr : ORel w0 B C h m a cap p k w) (hk : k < m) : ORel w0 B C h m a cap p (k + 1) (w.setCell ⟨h, k, none⟩ (.bool (!p k))) := by
  obtain ⟨a1, a2, a3, a4, ⟨u, v, a5⟩, a6, a7, a8, a9, b1, b2, b3, b4⟩ := hr
  have hg := grown_cell w h k (.bool (!p k))
  have hb := a2.trans (below_grown hg b1 a2.size)
  refine ⟨hk, hb, two_past a3 hg (fun e => a7 (Option.some.inj e)), two_past a4 hg (fun e => a8 (Option.some.inj e)), ⟨u, v, two_past a5 hg (fun e => a9 (Option.some.inj e))⟩, ReadsL.over b4 hb (Nat.le_refl _), a7, a8, a9, b1, by simpa using b2, ?_, b4⟩
  have := b3.set (k := k) (by rw [List.length_map, inL_len]; exact hk) (.bool (!p k))
  rw [inL_set m _ (fun v => decide (v < k + 1) && !p v) hk (!p k) (by simp) (fun v hv => by
    by_cases e : v < k
    · simp [e, Nat.lt_succ_of_lt e]
    · have : ¬ v < k + 1 := by omega
      simp [e, this])] at this
  exact this
theorem ORel.draw {w0 w : World} {B C h m k cap : Nat} {a : Option Addr} {p : Nat → Bool} (hr : ORel w0 B C h m a cap p k w) (n : Nat) : ORel w0 B C h m a cap p k (w.drewN n) := by
  obtain ⟨a1, a2, a3, a4, ⟨u, v, a5⟩, a6, a7, a8, a9, b1, b2, b3, b4⟩ := hr
  have hb := below_drewN (Below.refl w.heap.size w) n
  exact ⟨a1, below_drewN a2 n, a3.on hb a3.lt, a4.on hb a4.lt, ⟨u, v, a5.on hb a5.lt⟩, a6.keep hb, a7, a8, a9, b1, b2, b3.on hb b2, b4⟩
set_option maxHeartbeats 1000000 in
theorem otherRef_any (m : Nat) (hm : m ≤ 4096) (p : Nat → Bool) (a : Option Addr) (cap : Nat) (w : World) (h : RefAt w a m p) :
    Calls Tryd.prog 17 #[.agg #[.int .i64 (m : Int), .slice a m cap]] w fun e w' => ∃ q, e = .returned (.agg #[.int .i64 (m : Int), .slice q m m]) ∧ RefAt w' q m (otherP m p) ∧ Below w.heap.size w w' := by
  have H := Lib.hid h
  clear h
  go_enter Tryd.func17, Tryd.ntmps17
  go_wp2_with fail
  refine (newRef_any (m : Int) _).mono ?_
  rintro e w1 ⟨h, rfl, hb1, hh1, hh2, hrow⟩
  rw [roomN_of m hm] at hrow ⊢
  have hT0 := TwoAt.new w (.int .i64 (m : Int)) (.slice a m cap) 28
  have hA0 := (Below.refl w.heap.size w).alloc (Nat.le_refl _) (.cells #[.int .i64 (m : Int), .slice a m cap] 28)
  have hT1 := TwoAt.new (w.alloc (.cells #[.int .i64 (m : Int), .slice a m cap] 28)) (.int .i64 0) (.slice none 0 0) 28
  have hA1 := (Below.refl _ (w.alloc (.cells #[.int .i64 (m : Int), .slice a m cap] 28))).alloc (Nat.le_refl _) (.cells #[.int .i64 0, .slice none 0 0] 28)
  rw [World.size_alloc] at hT1
  have hT0' := hT0.on hA1 hT0.lt
  have hBel := hA0.trans (hA1.mono hA0.size)
  have hz1 : ((w.alloc (.cells #[.int .i64 (m : Int), .slice a m cap] 28)).alloc (.cells #[.int .i64 0, .slice none 0 0] 28)).heap.size = w.heap.size + 2 := by simp
  rw [hz1] at hh1
  have hT0w := hT0'.on hb1 hT0'.lt
  have hT1w := hT1.on hb1 hT1.lt
  have hBel1 := hBel.trans (hb1.mono hBel.size)
  have hA2 := (Below.refl _ w1).alloc (Nat.le_refl _) (.cells #[.int .i64 (m : Int), .slice (some ⟨h, 0, none⟩) m m] 28)
  have hC := TwoAt.new w1 (.int .i64 (m : Int)) (.slice (some ⟨h, 0, none⟩) m m) 28
  have hS : Hid (ORel w w.heap.size w1.heap.size h m a cap p 0 (w1.alloc (.cells #[.int .i64 (m : Int), .slice (some ⟨h, 0, none⟩) m m] 28))) := Lib.hid
    ⟨Nat.zero_le _, hBel1.trans (hA2.mono hBel1.size), hT0w.on hA2 hT0w.lt, hC, ⟨_, _, hT1w.on hA2 hT1w.lt⟩, H.out.keep (hBel1.trans (hA2.mono hBel1.size)), by omega, by omega, by omega, by omega, by simp; omega, by
      have : (fun v => decide (v < 0) && !p v) = noneP := by funext v; simp [noneP]
      rw [this]; exact hrow.on hA2 hh2, H.out⟩
  clear hT0 hA0 hT1 hA1 hT0' hBel hz1 hT0w hT1w hBel1 hA2 hC hrow hb1 hh1 hh2
  go_wp2
  generalize (w1.alloc (.cells #[.int .i64 (m : Int), .slice (some ⟨h, 0, none⟩) m m] 28)) = W2 at *
  generalize w1.heap.size = C at *
  go_loopw [4] (fun i wr => ∃ k : Nat, i = .int .i64 k ∧ Hid (ORel w w.heap.size C h m a cap p k wr)) (fun i _ => m - (intOf i).toNat)
  case atStart => exact ⟨0, rfl, hS⟩
  case round =>
    obtain ⟨k, rfl, HK⟩ := hrel
    have hk := HK.out.1
    have i0 : (0 : Int) ≤ (k : Int) := by omega
    have c0 := HK.out.2.2.1.1
    by_cases hlt : k < m
    · have i1 : (k : Int) < (m : Int) := by omega
      have HD := HK.out.draw 1
      have HN := Lib.hid (HD.step hlt)
      obtain ⟨b, off, rfl, hbN, d0⟩ := HD.2.2.2.2.2.1.at hlt
      have c1' := HD.2.2.1.2.1
      have e1' := HD.2.2.2.1.2.1
      obtain ⟨r0, r1⟩ := HD.2.2.2.2.2.2.2.2.2.2.2.1 k (by rw [List.length_map, inL_len]; exact hlt)
      clear HD
      generalize ((inL m (fun v => decide (v < k) && !p v)).map encB)[k]'(by rw [List.length_map, inL_len]; exact hlt) = old at *
      generalize p k = x at *
      go_wp2_with fail
      refine wp_region_still_tail 10 (by kernel_rfl) (by kernel_rfl) ?_
      change wpStill _ _ (wr.drewN 1) _ _ _
      change wpStill _ _ _ (fun a' => wpList _ _ _ _ _ (wr.drewN 1)) _ _
      generalize wr.drewN 1 = W at *
      simp only [List.take_succ_cons, List.take_zero, List.drop_succ_cons, List.drop_zero]
      repeat still_step
      refine wpStill_nil ?_
      go_wp2
      go_roundw
      case rel => exact ⟨k + 1, by go_num, HN⟩
      case measure => (simp [intOf] <;> omega)
    · have hke : k = m := by omega
      subst hke
      have c2 := HK.out.2.2.2.1.1
      have c3 := HK.out.2.2.2.1.2.1
      obtain ⟨u, v, t⟩ := HK.out.2.2.2.2.1
      have x0 := t.1
      have x1 := t.2.1
      have y0 := t.2.2.1
      have y1 := t.2.2.2
      have hfin := HK.out
      obtain ⟨b1, b2, -, -, -, -, b3, b4, b5, b6, b7, b8, b9⟩ := hfin
      have hRef : Hid (∀ W, wr.grownBy W (some (w.heap.size + 1)) → RefAt W (some ⟨h, 0, none⟩) k (otherP k p) ∧ Below w.heap.size w W) := Lib.hid (fun W hg => by
        refine ⟨?_, b2.trans (below_grown hg (by omega) b2.size)⟩
        refine row_ref ?_
        exact row_past b8 b7 hg (fun e => b5 (Option.some.inj e).symm))
      clear b1 b2 b3 b4 b5 b6 b7 b8 b9 t
      go_wp2
      have g1 := grown_trans (grown_cell wr (w.heap.size + 1) 0 (.int .i64 (k : Int))) (grown_cell _ (w.heap.size + 1) 1 (.slice (some ⟨h, 0, none⟩) k k))
      have ts := TwoAt.set (N := w.heap.size + 1) (w := wr) ⟨x0, x1, y0, y1⟩ (.int .i64 (k : Int)) (.slice (some ⟨h, 0, none⟩) k k)
      have s0 := ts.1
      have s1 := ts.2.1
      obtain ⟨q1, q2⟩ := hRef.out _ g1
      refine bodyPost_ret (v := .agg #[.int .i64 (k : Int), .slice (some ⟨h, 0, none⟩) k k]) (by simp [results, Tryd.results17, go_sem, s0, s1]) rfl ⟨_, rfl, q1, q2⟩
end Go.Proofs.YtkhkejfpoaleoaaDoor
