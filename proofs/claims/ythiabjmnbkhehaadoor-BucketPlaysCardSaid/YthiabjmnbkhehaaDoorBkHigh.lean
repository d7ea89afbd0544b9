/- Contracts of Highest and Above of a row of buckets, at every argument. -/
import Derived.Test.YthiabjmnbkhehaaDoorBkPut
import Derived.Test.YthiabjmnbkhehaaDoorRef09
namespace Go.Proofs.YthiabjmnbkhehaaDoor
open Go.RowKit Go.ChangeShapes BkPure
theorem high_nil (w : World) :
    Calls Tryd.prog 13 #[.pointer none] w fun e w' => e = .returned (.tuple #[.int .i64 0, .int .i64 0, .bool false]) ∧ w = w' := by
  go_enter Tryd.func13, Tryd.ntmps13
  go_wp2
  go_ret3
  exact ⟨rfl, rfl⟩
/-- At the head of a round: all buckets from the highest label on are empty. -/
def HiR (B : Bl) (w : World) (N : Nat) (D : List (Nat × Nat)) (hi : Int) (W : World) : Prop := ∃ M, BkSt B w M W ∧ GoodB N D M ∧ M.high = hi
section
variable {B : Bl} {w W W' : World} {M M' : Mb} {N : Nat} {D : List (Nat × Nat)}
theorem HiR.drop {hi : Int} (hN : N ≤ 4096) (h : HiR B w N D hi W) : DropOut B N D w W := by
  obtain ⟨M, h1, h2, -⟩ := h
  exact drop_end hN h2 h1
theorem HiR.alloc {hi : Int} (h : HiR B w N D hi W) (o : Obj) : HiR B w N D hi (W.alloc o) := by
  obtain ⟨M, h1, h2, h3⟩ := h
  exact ⟨M, h1.alloc o, h2, h3⟩
theorem high_zero (h : GoodB N D M) (hh : M.high = 0) : topD D = none := by
  rcases top_spec D with ⟨-, e⟩ | ⟨v, L, r, -, -, h3⟩
  · exact e
  · have : (v, L) ∈ D := mem_bk.1 (by rw [h3]; simp)
    have := h.2.2.2.2.2.1 _ this
    simp at this
    omega
theorem high_at (h : GoodB N D M) {L : Nat} (hh : M.high = (L : Int) + 1) :
    L ≤ 2 * N ∧ ∃ f c, M.F[L]? = some (f, c) ∧ ((f = -1 ∧ c = 0 ∧ GoodB N D ⟨M.F, M.S, M.inn, (L : Int)⟩) ∨ ∃ y : Nat, f = (y : Int) ∧ 0 < c ∧ topD D = some (y, L)) := by
  have h5 := h.2.2.2.2.1
  have hL : L ≤ 2 * N := by omega
  refine ⟨hL, _, _, (h.2.2.2.2.2.2.1 L hL).1, ?_⟩
  cases hb : bk D L with
  | nil =>
    refine Or.inl ⟨rfl, rfl, good_down h (fun p hp => ?_) (by omega) (by omega)⟩
    have h6 := h.2.2.2.2.2.1 p hp
    have : p.2 ≠ L := fun e => by
      have : p.1 ∈ bk D L := mem_bk.2 (by rw [← e]; exact hp)
      rw [hb] at this
      simp at this
    omega
  | cons y r =>
    refine Or.inr ⟨y, rfl, by simp only [List.length_cons]; omega, ?_⟩
    have hy : (y, L) ∈ D := mem_bk.1 (by rw [hb]; simp)
    rcases top_spec D with ⟨e, -⟩ | ⟨v, L', r', h1, h2, h3⟩
    · rw [e] at hy; simp at hy
    · have g1 := h2 _ hy
      have g2 := h.2.2.2.2.2.1 (v, L') (mem_bk.1 (by rw [h3]; simp))
      have g1' : L ≤ L' := g1
      have g2' : (L' : Int) < M.high := g2
      have e : L' = L := by omega
      subst e
      rw [hb] at h3
      cases h3
      exact h1
set_option maxHeartbeats 2000000 in
theorem high_run (W : World) (h : BkAt B N D W) :
    Calls Tryd.prog 13 #[.pointer (some ⟨B.b, 0, none⟩)] W fun e W' => e = .returned (.tuple #[.int .i64 (topV (topD D)), .int .i64 (topL (topD D)), .bool (topD D).isSome]) ∧ DropOut B N D W W' := by
  obtain ⟨hN, M0, hM0, hg0⟩ := h
  have hh0 := hg0.2.2.2.2.1
  have hh1 : M0.high ≤ 8193 := by omega
  have HN := Lib.hid hN
  have HS : Hid (HiR B W N D M0.high W) := Lib.hid ⟨M0, BkSt.start hM0, hg0, rfl⟩
  obtain ⟨⟨-, -, -, c3⟩, -, ⟨hb, -⟩, -⟩ := hM0.cells
  obtain ⟨H0, hH⟩ := Int.eq_ofNat_of_zero_le hh0.1
  rw [hH] at c3 HS hh1
  clear hM0 hg0 hh0 hN hH
  go_enter Tryd.func13, Tryd.ntmps13
  go_wp2
  clear c3
  go_loopw [13] (fun i wr => ∃ k : Nat, k ≤ H0 ∧ i = .int .i64 k ∧ Hid (HiR B W N D ((H0 : Int) - k) wr)) (fun i _ => H0 - (intOf i).toNat)
  case atStart => exact ⟨0, Nat.zero_le _, rfl, by simpa using HS⟩
  case round =>
    obtain ⟨k, hk, rfl, HK⟩ := hrel
    clear HS
    have i0 : (0 : Int) ≤ (k : Int) := by omega
    by_cases hlt : k < H0
    · have i1 : (k : Int) < (H0 : Int) := by omega
      obtain ⟨L, hL⟩ : ∃ L : Nat, (H0 : Int) - k = (L : Int) + 1 := ⟨H0 - k - 1, by omega⟩
      have hL2 : (L : Int) ≤ 8193 := by omega
      obtain ⟨M, h1, h2, h3⟩ := HK.out
      rw [hL] at h3
      obtain ⟨g1, f, c, g2, g3⟩ := high_at h2 h3
      have HD := Lib.hid (HK.out.alloc (.cells #[.int .i64 f, .int .i64 c] 47))
      have HX := Lib.hid (fun n => (h1.layHigh n).alloc (.cells #[.int .i64 f, .int .i64 c] 47))
      obtain ⟨⟨c0, c1, c2, c3⟩, ⟨f2, f3⟩, ⟨b1, b2, b3⟩, ⟨n1, n2, n3, n4, n5, n6⟩⟩ := h1.2.1.cells
      rw [h3] at c3
      obtain ⟨⟨e0, e1⟩, q0, q1⟩ := h1.2.1.getF g2
      obtain ⟨o0, o1⟩ := h1.2.1.glob.1
      have o2 := h1.2.1.lts.1
      have l1 := h2.2.1
      have d0 : (0 : Int) ≤ (L : Int) := by omega
      have d1 : (L : Int) < (M.F.length : Int) := by omega
      have HL := Lib.hid hL
      clear h1 h2 g1 g2 l1 hL
      rcases g3 with ⟨rfl, rfl, g4⟩ | ⟨y, rfl, hc, g4⟩
      · have HG := Lib.hid g4
        clear g4
        go_wp2
        go_roundw
        case rel => exact ⟨k + 1, by omega, by go_num, Lib.hid ⟨_, HX.out _, HG.out, by have := HL.out; show (L : Int) = _; omega⟩⟩
        case measure => (simp [intOf] <;> omega)
      · have tc : ((c : Int) == 0) = false := by
          have : ¬ c = 0 := by omega
          simpa using this
        have HT := Lib.hid g4
        clear g4
        go_wp2
        go_ret3
        exact ⟨by rw [HT.out]; rfl, HD.out.drop HN.out⟩
    · have hke : k = H0 := by omega
      subst hke
      have HT : Hid (topD D = none) := Lib.hid (by
        obtain ⟨M, h1, h2, h3⟩ := HK.out
        exact high_zero h2 (by omega))
      go_wp2
      go_ret3
      exact ⟨by rw [HT.out]; rfl, HK.out.drop HN.out⟩
theorem above_nil (l : Int) (w : World) :
    Calls Tryd.prog 16 #[.pointer none, .int .i64 l] w fun e w' => e = .returned (.slice none 0 0) ∧ w = w' := by
  go_enter Tryd.func16, Tryd.ntmps16
  go_wp2_with (first | (go_at_call 19; refine (room_nil _).mono ?_; rintro e w' ⟨rfl, rfl⟩))
  go_loopw [5, 10] (fun s i wr => s = .slice none 0 0 ∧ i = .int .i64 0 ∧ w = wr) (fun _ _ _ => 0)
  case atStart => exact ⟨rfl, rfl, rfl⟩
  case round =>
    obtain ⟨rfl, rfl, rfl⟩ := hrel
    go_wp2
    go_ret
    exact ⟨rfl, rfl⟩
theorem abv_no {l : Int} {v : Nat} (h : labD D (v : Int) = -1) : abvP D l v = false := by unfold abvP; rw [h]; rfl
theorem abv_of {l : Int} {v L : Nat} (h : labD D (v : Int) = (L : Int)) : abvP D l v = decide (l < (L : Int)) := by
  unfold abvP; rw [h, decide_eq_true (by omega : (0 : Int) ≤ (L : Int))]; rfl
set_option maxHeartbeats 2000000 in
theorem above_run (l : Int) (W : World) (h : BkAt B N D W) :
    Calls Tryd.prog 16 #[.pointer (some ⟨B.b, 0, none⟩), .int .i64 l] W fun e W' => ∃ v, e = .returned v ∧ ListOut (R9.upP (abvP D l) N) W W' v := by
  obtain ⟨hN, M, hM, hg⟩ := h
  have hlS := hg.2.2.1
  have HM := Lib.hid hM
  obtain ⟨i, hi1, hi2, hi3, hi4⟩ := info_int
  have HC : Hid (∀ wr, Below W.heap.size W wr → ∀ k, k < N → ∃ a z, M.S[k]? = some (labD D (k : Int), a, z) ∧ (labD D (k : Int) = -1 → a = -1 ∧ z = -1)) := Lib.hid fun _ _ k hk => good_seat hg hk
  have hsl : ((M.S.length : Nat) : Int) = (N : Int) := by omega
  clear hM hg
  go_enter Tryd.func16, Tryd.ntmps16
  go_wp2_with (first | (go_at_call 19; refine (room_run _ HM.out).mono ?_; rintro e w' ⟨rfl, rfl⟩; rw [hsl]))
  go_loopw [5, 10] (fun s i wr => ∃ (k : Nat) (v : Value), k ≤ N ∧ i = .int .i64 k ∧ v = s ∧ Hid (GrowRel encZ 3 W (R9.upP (abvP D l) k) v wr)) (fun _ i _ => N - (intOf i).toNat)
  case atStart => exact ⟨0, _, Nat.zero_le _, rfl, rfl, Lib.hid (GrowRel.start _ _ _)⟩
  case round =>
    obtain ⟨k, v, hk, rfl, rfl, HR⟩ := hrel
    have i0 : (0 : Int) ≤ (k : Int) := by omega
    by_cases hlt : k < N
    · have i1 : (k : Int) < (N : Int) := by omega
      have i2 : (k : Int) < (M.S.length : Int) := by omega
      obtain ⟨a, z, hs, hz⟩ := HC.out wr HR.out.1 k hlt
      have hMr := HM.out.keep HR.out.1
      obtain ⟨⟨c0, c1, -, -⟩, -, ⟨b1, b2, b3⟩, -⟩ := hMr.cells
      obtain ⟨⟨e0, e1, e2⟩, -⟩ := hMr.getS hs
      obtain ⟨-, o0, o1, o2⟩ := hMr.glob
      have l1 := hMr.lts.2
      have hul := R9.upP_len (abvP D l) k
      clear hMr hs
      rcases lab_cases D (k : Int) with ⟨hl, -⟩ | ⟨u, L, -, hl, -⟩
      · obtain ⟨rfl, rfl⟩ := hz hl
        have HU := Lib.hid (R9.upP_no (abv_no (l := l) hl))
        rw [hl] at e0
        have HA := Lib.hid (fun o => HR.out.on ((Below.refl wr.heap.size wr).alloc (Nat.le_refl _) o))
        clear hl hz hul
        go_wp2
        go_roundw
        case rel => exact ⟨k + 1, _, by omega, by go_num, rfl, Lib.hid (by rw [HU.out]; exact HA.out _)⟩
        case measure => (simp [intOf] <;> omega)
      · rw [hl] at e0
        have hab := abv_of (l := l) hl
        clear hz hl
        by_cases hll : l < (L : Int)
        · have HU := Lib.hid (R9.upP_yes (show abvP D l k = true by rw [hab]; exact decide_eq_true hll))
          have r1 : (L : Int) > l := hll
          have HRA := Lib.hid (HR.out.on ((Below.refl wr.heap.size wr).alloc (Nat.le_refl _) (.cells #[.int .i64 (L : Int), .int .i64 a, .int .i64 z] 49)))
          have hsz := HR.out.1.size
          clear hab hll HR
          generalize R9.upP (abvP D l) k = xs at *
          go_wp2_with (first
            | (at_builtin; refine wpList_append_own_at _ rfl _ _ 38 rfl W.heap.size 3 i (.int .i64 0) 1 8 Tryd.underlying38 hi1 hi2 hi3 hi4 rfl (by decide) v xs.length (xs.map encZ) rfl (HRA.out.2.alloc _) ⟨wr.heap.size + 1, 0, none⟩ 1 1 [.int .i64 (k : Int)] rfl rfl (one_newsAt (by simp)) (by intro u hu; simp at hu; subst hu; rfl) (by unfold maxLen; omega) (by omega) (by simp; omega) ?_; intro v' w6 hown6 hg6 _ _; have HS6 := Lib.hid (HRA.out.step (k : Int) hown6 hg6); clear hown6 hg6; rw [← HU.out] at HS6)
            | go_in)
          go_roundw
          case rel => exact ⟨k + 1, _, by omega, by go_num, rfl, HS6⟩
          case measure => (simp [intOf] <;> omega)
        · have HU := Lib.hid (R9.upP_no (show abvP D l k = false by rw [hab]; exact decide_eq_false hll))
          have r1 : ¬ (L : Int) > l := hll
          have HA := Lib.hid (fun o => HR.out.on ((Below.refl wr.heap.size wr).alloc (Nat.le_refl _) o))
          clear hab hll hul
          go_wp2
          go_roundw
          case rel => exact ⟨k + 1, _, by omega, by go_num, rfl, Lib.hid (by rw [HU.out]; exact HA.out _)⟩
          case measure => (simp [intOf] <;> omega)
    · have hke : k = N := by omega
      subst hke
      go_wp2
      go_ret
      refine ⟨_, rfl, ?_⟩
      obtain ⟨q', c', e, hr, -⟩ := HR.out.reads
      exact ⟨q', c', e, hr, HR.out.1⟩
end
end Go.Proofs.YthiabjmnbkhehaaDoor
