/- Contracts of slices.Min of groups, and of brute's Least and Count. -/
import Derived.Test.YtceejjgmepaonaaGreatDoorPk28
import Derived.Test.YtceejjgmepaonaaGreatDoorPk25
namespace Go.Proofs.YtceejjgmepaonaaGreatDoor.Bg
open Go.RowKit Go.ChangeShapes BgPure BgRes EdPure NtPure Br Sd
set_option maxRecDepth 100000 in
set_option maxHeartbeats 1000000 in
theorem min_any (q : Option Addr) (cap : Nat) (xs : List Nat) (h0 : xs ≠ []) (hl : xs.length ≤ 1000000) (w : World) (hR : ReadsL encG w.heap.size w q xs) :
    Calls Tryz.prog 23 #[.slice q xs.length cap] w fun e w' => (∃ m : Nat, m ∈ xs ∧ (∀ y ∈ xs, m ≤ y) ∧ e = .returned (.int .u32 (m : Int))) ∧ w = w' := by
  have hpos : 0 < xs.length := List.length_pos_iff.2 h0
  obtain ⟨b, off, rfl, hb, hc⟩ : ∃ b off, q = some ⟨b, off, none⟩ ∧ b < w.heap.size ∧ ∀ i (h : i < xs.length), w.cell? ⟨b, off + i, none⟩ = some (encG xs[i]) := by
    rcases hR with h | h
    · exact absurd h h0
    · exact h
  have HC := Lib.hid hc
  have c0 := hc 0 hpos
  rw [Nat.add_zero] at c0
  unfold encG at c0
  have i0 : ¬ (xs.length : Int) < 1 := by omega
  have i1 : (0 : Int) < (xs.length : Int) := by omega
  have hfirst : Hid (xs[0] ∈ xs.take 1 ∧ ∀ y ∈ xs.take 1, xs[0] ≤ y) := Lib.hid (by
    have e : xs.take 1 = [xs[0]] := by
      have := List.take_succ_eq_append_getElem hpos
      simpa using this
    rw [e]
    simp)
  clear hR h0 hc
  generalize xs[0] = x0 at *
  go_enter Tryz.func23, Tryz.ntmps23
  go_wp2_with fail
  go_loopw [3, 4] (fun v i wr => ∃ m k : Nat, v = .int .u32 (m : Int) ∧ i = .int .i64 (k : Int) ∧ 1 ≤ k ∧ k ≤ xs.length ∧ wr = w ∧ Hid (m ∈ xs.take k ∧ ∀ y ∈ xs.take k, m ≤ y)) (fun _ i _ => xs.length - (intOf i).toNat)
  case atStart => exact ⟨x0, 1, rfl, rfl, Nat.le_refl _, by omega, rfl, hfirst⟩
  case round =>
    clear hfirst c0
    obtain ⟨m, k, rfl, rfl, hk1, hk, rfl, HM⟩ := hrel
    have j0 : (0 : Int) ≤ (k : Int) := by omega
    by_cases hlt : k < xs.length
    · have j1 : (k : Int) < (xs.length : Int) := by omega
      have ck := HC.out k hlt
      unfold encG at ck
      obtain ⟨z, hz1, hz2, HZ⟩ : ∃ z : Nat, ((if (xs[k] : Int) < (m : Int) then (xs[k] : Int) else (m : Int)) = (z : Int)) ∧ (min (m : Int) (xs[k] : Int) = (z : Int)) ∧ Hid (z ∈ xs.take (k + 1) ∧ ∀ y ∈ xs.take (k + 1), z ≤ y) := by
        obtain ⟨m1, m2⟩ := HM.out
        rw [List.take_succ_eq_append_getElem hlt]
        by_cases h : xs[k] < m
        · refine ⟨xs[k], if_pos (by omega), by omega, Lib.hid ⟨List.mem_append_right _ (List.mem_singleton.2 rfl), fun y hy => ?_⟩⟩
          rcases List.mem_append.1 hy with hy | hy
          · have := m2 y hy; omega
          · rw [List.mem_singleton.1 hy]; exact Nat.le_refl _
        · refine ⟨m, if_neg (by omega), by omega, Lib.hid ⟨List.mem_append_left _ m1, fun y hy => ?_⟩⟩
          rcases List.mem_append.1 hy with hy | hy
          · exact m2 y hy
          · rw [List.mem_singleton.1 hy]; omega
      generalize xs[k] = x at *
      go_wp2
      go_roundw
      case rel => exact ⟨z, k + 1, rfl, by go_num, by omega, by omega, trivial, HZ⟩
      case measure => (simp [intOf] <;> omega)
    · have hke : k = xs.length := by omega
      subst hke
      have j1 : ¬ ((xs.length : Nat) : Int) < (xs.length : Int) := by omega
      rw [List.take_length] at HM
      go_wp2
      go_ret
      exact ⟨⟨m, HM.out.1, HM.out.2, rfl⟩, rfl⟩
/-- What is told of a cut, laid into the result's cells. -/
theorem cut_done {w W : World} {x : Int} {q : Option Addr} {c : Nat} {L : List Int} (hB : Below w.heap.size w W) (hr : ReadsL encZ W.heap.size W q L) (R : Nat) (hR : w.heap.size ≤ R) (hT : TwoAt R W (.int .i64 0) (.slice none 0 0)) (hq : ∀ z, q = some z → z.block ≠ R) :
    Below w.heap.size w ((W.setCell ⟨R, 0, none⟩ (.int .i64 x)).setCell ⟨R, 1, none⟩ (.slice q L.length c)) ∧ TwoAt R ((W.setCell ⟨R, 0, none⟩ (.int .i64 x)).setCell ⟨R, 1, none⟩ (.slice q L.length c)) (.int .i64 x) (.slice q L.length c) ∧
    ReadsL encZ ((W.setCell ⟨R, 0, none⟩ (.int .i64 x)).setCell ⟨R, 1, none⟩ (.slice q L.length c)).heap.size ((W.setCell ⟨R, 0, none⟩ (.int .i64 x)).setCell ⟨R, 1, none⟩ (.slice q L.length c)) q L :=
  ⟨(hB.setCell (p := ⟨R, 0, none⟩) hR _).setCell (p := ⟨R, 1, none⟩) hR _, hT.set _ _, reads_ne (reads_ne hr hq _) hq _⟩
set_option maxRecDepth 100000 in
set_option maxHeartbeats 2000000 in
theorem brLeast_any (p : Option Addr) (N : Nat) (M : List Ed) (_hN : N ≤ 4096) (hG : GoodN N M) (hM : M.length ≤ 100000) (w : World) (h : NetAt p N M w) (hT : Tab w) :
    Calls Tryz.prog 6 #[.pointer p] w fun e w' => SideC (lsW N M) (lsS N M) (smallE (N : Int)) w e w' := by
  have hb0 : Below w.heap.size w (w.alloc (.cells #[.int .i64 0, .slice none 0 0] 30)) := (Below.refl _ _).alloc (Nat.le_refl _) _
  have HNet := Lib.hid (h.over hb0)
  have HTw := Lib.hid (TwoAt.new w (.int .i64 0) (.slice none 0 0) 30)
  have HB := Lib.hid hb0
  have HTab := Lib.hid (tab_keep hT hb0)
  have HW := Lib.hid (fun W => wrongSize_any (N : Int) W)
  clear h hT hb0
  by_cases hk : smallE (N : Int) = 0
  · obtain ⟨h2, h20⟩ := small_zero.1 hk
    obtain ⟨k1, k2, g, k3, k4, k5⟩ := least_is hG h2 h20
    rw [← k1, ← k5, hk]
    rw [hk] at HW
    have hne : (ltF anyA M (2 ^ (N - 1) - 1)).2 ≠ [] := fun e => by rw [e] at k3; simp at k3
    have h19 : 2 ^ (N - 1) ≤ 2 ^ 19 := Nat.pow_le_pow_right (by decide) (by omega)
    have hlen : (ltF anyA M (2 ^ (N - 1) - 1)).2.length ≤ 1000000 := by have := lt_len anyA M (2 ^ (N - 1) - 1); omega
    have HL := Lib.hid (fun W hn ht => lightest_any p N M h20 hG (by omega) 22 #[] (enters_of Tryz.func22 (by kernel_rfl) rfl) anyA W hn ht (fun g W1 _ _ => (anySide_any (g : Int) W1).mono fun e w' ⟨h1, h2⟩ => ⟨h1, by rw [h2]; exact Below.refl _ _⟩))
    have HMin := Lib.hid (fun q cap W hR => min_any q cap (ltF anyA M (2 ^ (N - 1) - 1)).2 hne hlen W hR)
    have HGr := Lib.hid (And.intro k3 (And.intro k4 (fun y hy => gL_ltN (by omega) (Nat.le_refl _) (lt_in (A := anyA) (M := M) (i := 2 ^ (N - 1) - 1) (g := y) hy))))
    have h20' : 2 ^ N ≤ 2 ^ 20 := Nat.pow_le_pow_right (by decide) h20
    have HN20 := Lib.hid h20'
    unfold LightOut at HL
    clear hk h2 h20 k1 k2 k3 k4 k5 hne h19 hlen hG h20'
    generalize (ltF anyA M (2 ^ (N - 1) - 1)).1 = x at *
    generalize (ltF anyA M (2 ^ (N - 1) - 1)).2 = xs at *
    go_enter Tryz.func6, Tryz.ntmps6
    go_wp2_with fail
    generalize w.alloc (.cells #[.int .i64 0, .slice none 0 0] 30) = W0 at *
    refine (num_any p N M W0 HNet.out).mono ?_
    rintro e w1 ⟨rfl, hb1⟩
    have HB1 := Lib.hid (HB.out.trans (hb1.mono HB.out.size))
    have HN1 := Lib.hid (HNet.out.over hb1)
    have HT1 := Lib.hid (HTw.out.on hb1 HTw.out.lt)
    have HTa1 := Lib.hid (tab_keep HTab.out hb1)
    clear hb1 HB HNet HTw HTab
    go_wp2_with (first | (go_at_call 19; refine (HW.out _).mono ?_; rintro e w' ⟨rfl, rfl⟩))
    refine (HL.out w1 HN1.out HTa1.out).mono ?_
    rintro e w2 ⟨q, cap, rfl, hr2, hb2⟩
    have HB2 := Lib.hid (HB1.out.trans (hb2.mono HB1.out.size))
    have HT2 := Lib.hid (HT1.out.on hb2 HT1.out.lt)
    have HTa2 := Lib.hid (tab_keep HTa1.out hb2)
    have HR2 := Lib.hid hr2
    clear hb2 hr2 HB1 HT1 HTa1 HL
    go_wp2_with fail
    refine (HMin.out q cap w2 HR2.out).mono ?_
    rintro e w3 ⟨⟨m, hm1, hm2, rfl⟩, rfl⟩
    have hmg : m = g := Nat.le_antisymm (hm2 g HGr.out.1) (HGr.out.2.1 m hm1)
    subst hmg
    have hm32 : m < 4294967296 := by have := HGr.out.2.2 m hm1; have := HN20.out; omega
    clear hm1 hm2 HMin HR2
    go_wp2_with fail
    refine (list_any m hm32 w2 HTa2.out).mono ?_
    rintro e w3 ⟨q3, c3, rfl, hr3, hq3, hb3⟩
    have HB3 := Lib.hid (HB2.out.trans (hb3.mono HB2.out.size))
    have HT3 := Lib.hid (HT2.out.on hb3 HT2.out.lt)
    have HD := Lib.hid (cut_done (x := x) (c := c3) HB3.out hr3 w.heap.size (Nat.le_refl _) HT3.out (fun z hz => by have := hq3 z hz; have := HT2.out.lt; omega))
    obtain ⟨c0, c1, f0, f1⟩ := HT3.out
    have hlt := HT3.out.lt
    clear hb3 hr3 hq3 HB2 HT2 HTa2
    go_wp2
    obtain ⟨d0, d1, -, -⟩ := HD.out.2.1
    exact bodyPost_ret (v := .tuple #[.agg #[.int .i64 x, .slice q3 (grpL m).length c3], .int .i64 0]) (by simp [results, Tryz.results6, go_sem, d0, d1]) rfl ⟨HD.out.1, q3, c3, rfl, HD.out.2.2⟩
  · have t : (smallE (N : Int) != 0) = true := by simpa using hk
    have e1 : lsW N M = 0 := if_neg hk
    have e2 : lsS N M = [] := if_neg hk
    rw [e1, e2]
    clear hk e1 e2 hG HTab
    generalize smallE (N : Int) = z at *
    go_enter Tryz.func6, Tryz.ntmps6
    go_wp2_with fail
    generalize w.alloc (.cells #[.int .i64 0, .slice none 0 0] 30) = W0 at *
    refine (num_any p N M W0 HNet.out).mono ?_
    rintro e w1 ⟨rfl, hb1⟩
    have HB1 := Lib.hid (HB.out.trans (hb1.mono HB.out.size))
    have HT1 := Lib.hid (HTw.out.on hb1 HTw.out.lt)
    have HD := Lib.hid (cut_done (x := 0) (c := 0) (q := none) (L := []) HB1.out (ReadsL.nil _ _ _ _) w.heap.size (Nat.le_refl _) HT1.out (fun z hz => by cases hz))
    obtain ⟨c0, c1, f0, f1⟩ := HT1.out
    have hlt := HT1.out.lt
    clear hb1 HB HNet HTw
    go_wp2_with (first | (go_at_call 19; refine (HW.out _).mono ?_; rintro e w' ⟨rfl, rfl⟩))
    obtain ⟨d0, d1, -, -⟩ := HD.out.2.1
    simp only [List.length_nil] at d0 d1
    exact bodyPost_ret (v := .tuple #[.agg #[.int .i64 0, .slice none 0 0], .int .i64 z]) (by simp [results, Tryz.results6, go_sem, d0, d1]) rfl ⟨HD.out.1, none, 0, rfl, HD.out.2.2⟩
set_option maxRecDepth 100000 in
set_option maxHeartbeats 2000000 in
theorem brCount_any (p : Option Addr) (N : Nat) (M : List Ed) (_hN : N ≤ 4096) (hG : GoodN N M) (hM : M.length ≤ 100000) (w : World) (h : NetAt p N M w) (hT : Tab w) :
    Calls Tryz.prog 9 #[.pointer p] w fun e w' => e = .returned (.tuple #[.int .i64 (lsC N M : Int), .int .i64 (smallE (N : Int))]) ∧ Below w.heap.size w w' := by
  have HNet := Lib.hid h
  have HTab := Lib.hid hT
  have HW := Lib.hid (fun W => wrongSize_any (N : Int) W)
  clear h hT
  by_cases hk : smallE (N : Int) = 0
  · obtain ⟨h2, h20⟩ := small_zero.1 hk
    obtain ⟨-, k2, -⟩ := least_is hG h2 h20
    rw [← k2, hk]
    rw [hk] at HW
    have HL := Lib.hid (fun W hn ht => lightest_any p N M h20 hG (by omega) 22 #[] (enters_of Tryz.func22 (by kernel_rfl) rfl) anyA W hn ht (fun g W1 _ _ => (anySide_any (g : Int) W1).mono fun e w' ⟨h1, h2⟩ => ⟨h1, by rw [h2]; exact Below.refl _ _⟩))
    unfold LightOut at HL
    clear hk h2 h20 k2 hG
    generalize (ltF anyA M (2 ^ (N - 1) - 1)).1 = x at *
    generalize (ltF anyA M (2 ^ (N - 1) - 1)).2 = xs at *
    go_enter Tryz.func9, Tryz.ntmps9
    go_wp2_with fail
    refine (num_any p N M w HNet.out).mono ?_
    rintro e w1 ⟨rfl, hb1⟩
    have HB1 := Lib.hid hb1
    have HN1 := Lib.hid (HNet.out.over hb1)
    have HTa1 := Lib.hid (tab_keep HTab.out hb1)
    clear hb1 HNet HTab
    go_wp2_with (first | (go_at_call 19; refine (HW.out _).mono ?_; rintro e w' ⟨rfl, rfl⟩))
    refine (HL.out w1 HN1.out HTa1.out).mono ?_
    rintro e w2 ⟨q, cap, rfl, hr2, hb2⟩
    have HB2 := Lib.hid (HB1.out.trans (hb2.mono HB1.out.size))
    clear hb2 hr2 HB1 HTa1 HL
    go_wp2
    go_ret2
    exact ⟨rfl, HB2.out⟩
  · have t : (smallE (N : Int) != 0) = true := by simpa using hk
    have e1 : lsC N M = 0 := if_neg hk
    rw [e1]
    clear hk e1 hG HTab
    generalize smallE (N : Int) = z at *
    go_enter Tryz.func9, Tryz.ntmps9
    go_wp2_with fail
    refine (num_any p N M w HNet.out).mono ?_
    rintro e w1 ⟨rfl, hb1⟩
    have HB1 := Lib.hid hb1
    clear hb1 HNet
    go_wp2_with (first | (go_at_call 19; refine (HW.out _).mono ?_; rintro e w' ⟨rfl, rfl⟩))
    go_ret2
    exact ⟨rfl, HB1.out⟩
end Go.Proofs.YtceejjgmepaonaaGreatDoor.Bg
