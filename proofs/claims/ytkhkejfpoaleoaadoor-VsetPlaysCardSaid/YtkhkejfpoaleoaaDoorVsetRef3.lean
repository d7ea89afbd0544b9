/- The document's answers of layer 9: the set of a list, and a set with a vertex more, or less. -/
import Derived.Test.YtkhkejfpoaleoaaDoorVsetRef2
import Derived.Deep.RegionLawGrows
import Derived.Deep.AppendLies
namespace Go.Proofs.YtkhkejfpoaleoaaDoor
open Go.RowKit Go.ChangeShapes VsetPure
/-- At the head of a round: the first k numbers of the list are in. -/
def IRel (w0 : World) (C h m : Nat) (l : List Int) (k : Nat) (w : World) : Prop :=
  k ≤ l.length ∧ Below w0.heap.size w0 w ∧ TwoAt C w (.int .i64 (m : Int)) (.slice (some ⟨h, 0, none⟩) m m) ∧ (∃ u v, TwoAt w0.heap.size w u v) ∧ C ≠ h ∧ w0.heap.size ≠ h ∧ w0.heap.size ≤ h ∧ h < w.heap.size ∧
    RowIs h w ((inL m (ofP m (l.take k))).map encB)
theorem IRel.draw {w0 w : World} {C h m k : Nat} {l : List Int} (hr : IRel w0 C h m l k w) (n : Nat) : IRel w0 C h m l k (w.drewN n) := by
  obtain ⟨a1, a2, a3, ⟨u, v, a4⟩, a5, a6, a7, a8, a9⟩ := hr
  have hb := below_drewN (Below.refl w.heap.size w) n
  exact ⟨a1, below_drewN a2 n, a3.on hb a3.lt, ⟨u, v, a4.on hb a4.lt⟩, a5, a6, a7, a8, a9.on hb a8⟩
theorem IRel.yes {w0 w : World} {C h m k u : Nat} {l : List Int} (hr : IRel w0 C h m l k w) (hk : k < l.length) (hu : u < m) (hx : l[k] = (u : Int)) : IRel w0 C h m l (k + 1) (w.setCell ⟨h, u, none⟩ (.bool true)) := by
  obtain ⟨a1, a2, a3, ⟨x, y, a4⟩, a5, a6, a7, a8, a9⟩ := hr
  have hg := grown_cell w h u (.bool true)
  refine ⟨hk, a2.trans (below_grown hg a7 a2.size), two_past a3 hg (fun e => a5 (Option.some.inj e)), ⟨x, y, two_past a4 hg (fun e => a6 (Option.some.inj e))⟩, a5, a6, a7, by simpa using a8, ?_⟩
  have := a9.set (k := u) (by rw [List.length_map, inL_len]; exact hu) (.bool true)
  rw [inL_set m _ (ofP m (l.take (k + 1))) hu true (by rw [ofP_next m l hk]; unfold putP; rw [hx]; have : fitB m (u : Int) = true := by simp [fitB]; omega
                                                       simp [this]) (fun v hv => by
    rw [ofP_next m l hk]; unfold putP; rw [hx]
    have : ¬ (v : Int) = (u : Int) := by omega
    simp [this])] at this
  exact this
theorem IRel.no {w0 w : World} {C h m k : Nat} {l : List Int} (hr : IRel w0 C h m l k w) (hk : k < l.length) (hx : fitB m l[k] = false) : IRel w0 C h m l (k + 1) w := by
  obtain ⟨a1, a2, a3, a4, a5, a6, a7, a8, a9⟩ := hr
  refine ⟨hk, a2, a3, a4, a5, a6, a7, a8, ?_⟩
  rw [ofP_next m l hk, putP_same (Or.inl hx)]
  exact a9
set_option maxHeartbeats 1000000 in
theorem ofRef_any (n : Int) (a : Option Addr) (cap : Nat) (l : List Int) (w : World) (hl : ReadsL (encInt .i64) w.heap.size w a l) (hlen : l.length ≤ 1000) :
    Calls Tryd.prog 19 #[.int .i64 n, .slice a l.length cap] w fun e w' => ∃ h, e = .returned (.agg #[.int .i64 (roomN n : Int), .slice (some ⟨h, 0, none⟩) (roomN n) (roomN n)]) ∧ (w.heap.size ≤ h ∧ h < w'.heap.size ∧ RowIs h w' ((inL (roomN n) (ofP (roomN n) l)).map encB)) ∧ Below w.heap.size w w' := by
  have HL := Lib.hid hl
  have h4 := roomN_le n
  have hnew := fun w => newRef_any n w
  clear hl
  generalize roomN n = m at *
  have HNew := Lib.hid hnew
  clear hnew
  go_enter Tryd.func19, Tryd.ntmps19
  go_wp2_with fail
  refine (HNew.out _).mono ?_
  rintro e w1 ⟨h, rfl, hb1, hh1, hh2, hrow⟩
  have hT1 := TwoAt.new w (.int .i64 0) (.slice none 0 0) 28
  have hA1 := (Below.refl _ w).alloc (Nat.le_refl _) (.cells #[.int .i64 0, .slice none 0 0] 28)
  have hz1 : (w.alloc (.cells #[.int .i64 0, .slice none 0 0] 28)).heap.size = w.heap.size + 1 := by simp
  rw [hz1] at hh1
  have hT1w := hT1.on hb1 hT1.lt
  have hBel1 := hA1.trans (hb1.mono hA1.size)
  have hA2 := (Below.refl _ w1).alloc (Nat.le_refl _) (.cells #[.int .i64 (m : Int), .slice (some ⟨h, 0, none⟩) m m] 28)
  have hC := TwoAt.new w1 (.int .i64 (m : Int)) (.slice (some ⟨h, 0, none⟩) m m) 28
  have hS : Hid (IRel w w1.heap.size h m l 0 (w1.alloc (.cells #[.int .i64 (m : Int), .slice (some ⟨h, 0, none⟩) m m] 28))) := Lib.hid
    ⟨Nat.zero_le _, hBel1.trans (hA2.mono hBel1.size), hC, ⟨_, _, hT1w.on hA2 hT1w.lt⟩, by omega, by omega, by omega, by simp; omega, by
      rw [List.take_zero, ofP_nil]; exact hrow.on hA2 hh2⟩
  clear hT1 hA1 hz1 hT1w hBel1 hA2 hC hrow hb1 hh1 hh2
  go_wp2
  generalize (w1.alloc (.cells #[.int .i64 (m : Int), .slice (some ⟨h, 0, none⟩) m m] 28)) = W2 at *
  generalize w1.heap.size = C at *
  go_loopw [6] (fun i wr => ∃ k : Nat, i = .int .i64 k ∧ Hid (IRel w C h m l k wr)) (fun i _ => l.length - (intOf i).toNat)
  case atStart => exact ⟨0, rfl, hS⟩
  case round =>
    obtain ⟨k, rfl, HK⟩ := hrel
    have hk := HK.out.1
    have i0 : (0 : Int) ≤ (k : Int) := by omega
    by_cases hlt : k < l.length
    · have i1 : (k : Int) < (l.length : Int) := by omega
      obtain ⟨b, off, rfl, hbN, d0⟩ := HL.out.at hlt
      have d1 := (HK.out.2.1.cell (p := ⟨b, off + k, none⟩) hbN).trans d0
      unfold encInt at d1
      have e0 := HK.out.2.2.1.1
      have e1 := HK.out.2.2.1.2.1
      clear d0
      by_cases x0 : 0 ≤ l[k]
      · have t1 : decide (l[k] ≥ 0) = true := decide_eq_true x0
        by_cases x1 : l[k] < (m : Int)
        · have t2 : decide (l[k] < (m : Int)) = true := decide_eq_true x1
          obtain ⟨u, hu⟩ := Int.eq_ofNat_of_zero_le x0
          have hum : u < m := by omega
          have HN := fun nn => Lib.hid ((HK.out.draw nn).yes hlt hum hu)
          have HN2 := Lib.hid HN
          obtain ⟨r0, r1⟩ := HK.out.2.2.2.2.2.2.2.2 u (by rw [List.length_map, inL_len]; exact hum)
          generalize ((inL m (ofP m (l.take k))).map encB)[u]'(by rw [List.length_map, inL_len]; exact hum) = old at *
          rw [hu] at d1 t1 t2
          clear HN x0 x1 hu
          have j0 : (0 : Int) ≤ (u : Int) := by omega
          have j1 : (u : Int) < (m : Int) := by omega
          go_wp2_with fail
          go_quiet (fail)
          go_wp2_with fail
          have HE := HN2.out (nq + 1)
          have e0' : ((wr.drewN nq).drewN 1).cell? ⟨C, 0, none⟩ = some (.int .i64 (m : Int)) := by simpa using e0
          have e1' : ((wr.drewN nq).drewN 1).cell? ⟨C, 1, none⟩ = some (.slice (some ⟨h, 0, none⟩) m m) := by simpa using e1
          have d1' : ((wr.drewN nq).drewN 1).cell? ⟨b, off + k, none⟩ = some (.int .i64 (u : Int)) := by simpa using d1
          have r0' : ((wr.drewN nq).drewN 1).cell? ⟨h, u, none⟩ = some old := by simpa using r0
          have r1' : ((wr.drewN nq).drewN 1).frozen? ⟨h, u, none⟩ = false := by simpa using r1
          rw [← World.drewN_drewN] at HE
          clear HN2 e0 e1 d1 r0 r1
          refine wp_region_still_tail 7 (by kernel_rfl) (by kernel_rfl) ?_
          change wpStill _ _ ((wr.drewN nq).drewN 1) _ _ _
          change wpStill _ _ _ (fun a' => wpList _ _ _ _ _ ((wr.drewN nq).drewN 1)) _ _
          generalize (wr.drewN nq).drewN 1 = W at *
          simp only [List.take_succ_cons, List.take_zero, List.drop_succ_cons, List.drop_zero]
          repeat still_step
          refine wpStill_nil ?_
          go_wp2
          go_roundw
          case rel => exact ⟨k + 1, by go_num, HE⟩
          case measure => (simp [intOf] <;> omega)
        · have t2 : decide (l[k] < (m : Int)) = false := decide_eq_false x1
          have HN := fun nn => Lib.hid ((HK.out.draw nn).no hlt (by unfold fitB; rw [t2, Bool.and_false]))
          have HN2 := Lib.hid HN
          clear HN x0 x1
          generalize l[k] = x at *
          go_wp2_with fail
          go_quiet (fail)
          go_wp2
          go_roundw
          case rel => exact ⟨k + 1, by go_num, HN2.out _⟩
          case measure => (simp [intOf] <;> omega)
      · have t1 : decide (l[k] ≥ 0) = false := decide_eq_false x0
        have HN := fun nn => Lib.hid ((HK.out.draw nn).no hlt (by unfold fitB; rw [decide_eq_false x0, Bool.false_and]))
        have HN2 := Lib.hid HN
        clear HN x0
        generalize l[k] = x at *
        go_wp2_with fail
        go_quiet (fail)
        go_wp2
        go_roundw
        case rel => exact ⟨k + 1, by go_num, HN2.out _⟩
        case measure => (simp [intOf] <;> omega)
    · have hke : k = l.length := by omega
      have c2 := HK.out.2.2.1.1
      have c3 := HK.out.2.2.1.2.1
      obtain ⟨u, v, t⟩ := HK.out.2.2.2.1
      have x0 := t.1
      have x1 := t.2.1
      have y0 := t.2.2.1
      have y1 := t.2.2.2
      have hfin := HK.out
      rw [hke] at hfin
      obtain ⟨b1, b2, -, -, b3, b4, b5, b6, b7⟩ := hfin
      rw [List.take_length] at b7
      have hRef : Hid (∀ W, wr.grownBy W (some w.heap.size) → (w.heap.size ≤ h ∧ h < W.heap.size ∧ RowIs h W ((inL m (ofP m l)).map encB)) ∧ Below w.heap.size w W) := Lib.hid (fun W hg => by
        refine ⟨⟨b5, Nat.lt_of_lt_of_le b6 hg.size, ?_⟩, b2.trans (below_grown hg (Nat.le_refl _) b2.size)⟩
        exact row_past b7 b6 hg (fun e => b4 (Option.some.inj e).symm))
      clear b1 b2 b3 b4 b5 b6 b7 t
      go_wp2
      have g1 := grown_trans (grown_cell wr w.heap.size 0 (.int .i64 (m : Int))) (grown_cell _ w.heap.size 1 (.slice (some ⟨h, 0, none⟩) m m))
      have ts := TwoAt.set (N := w.heap.size) (w := wr) ⟨x0, x1, y0, y1⟩ (.int .i64 (m : Int)) (.slice (some ⟨h, 0, none⟩) m m)
      have s0 := ts.1
      have s1 := ts.2.1
      obtain ⟨q1, q2⟩ := hRef.out _ g1
      refine bodyPost_ret (v := .agg #[.int .i64 (m : Int), .slice (some ⟨h, 0, none⟩) m m]) (by simp [results, Tryd.results19, go_sem, s0, s1]) rfl ⟨_, rfl, q1, q2⟩
end Go.Proofs.YtkhkejfpoaleoaaDoor
