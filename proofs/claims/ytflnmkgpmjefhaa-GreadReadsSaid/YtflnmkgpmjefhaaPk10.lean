/- Texts that the laws of this seat stand on, part 10. -/
import Derived.Test.YtflnmkgpmjefhaaPk7
import Derived.Test.YtflnmkgpmjefhaaPk8
import Derived.Test.YtflnmkgpmjefhaaPk9
import Derived.Test.YtflnmkgpmjefhaaPk1
/- Contracts: who is below a bound; the numbers of a line. -/
namespace Go.Proofs.Ytflnmkgpmjefhaa.Gr
open Go.RowKit Go.ChangeShapes DecPure WordPure GrPure Str
theorem below_any (n m : Int) (w : World) :
    Calls Try.prog 20 #[.int .i64 n, .int .i64 m] w fun e w' => e = .returned (.bool (belB n m)) ∧ w = w' := by
  by_cases h1 : 0 ≤ n
  · have HE : Hid (belB n m = decide (n < m)) := Lib.hid (by unfold belB; simp [h1])
    go_enter Try.func20, Try.ntmps20
    go_wp2
    go_ret
    exact ⟨bool_ret HE.out.symm, rfl⟩
  · have HE : Hid (belB n m = false) := Lib.hid (by unfold belB; simp [h1])
    go_enter Try.func20, Try.ntmps20
    go_wp2
    go_ret
    exact ⟨bool_ret HE.out.symm, rfl⟩
/-- The row of numbers as it is filled. -/
def rowN (ws : List (List UInt8)) (j : Nat) : List Value := (List.range ws.length).map fun i => .int .i64 (if i < j then zW (ws.getD i []) else 0)
theorem rowN_len (ws : List (List UInt8)) (j : Nat) : (rowN ws j).length = ws.length := by unfold rowN; simp
theorem rowN_get {ws : List (List UInt8)} {j i : Nat} (h : i < (rowN ws j).length) : (rowN ws j)[i] = .int .i64 (if i < j then zW (ws.getD i []) else 0) := by unfold rowN; simp
theorem rowN_zero (ws : List (List UInt8)) : rowN ws 0 = List.replicate ws.length (.int .i64 0) := by
  refine List.ext_getElem (by simp [rowN_len]) fun i h1 h2 => ?_
  unfold rowN
  simp
theorem rowN_set (ws : List (List UInt8)) (j : Nat) (hj : j < ws.length) : (rowN ws j).set j (.int .i64 (zW ws[j])) = rowN ws (j + 1) := by
  refine List.ext_getElem (by simp [rowN_len]) fun i h1 h2 => ?_
  rw [List.getElem_set, rowN_get, rowN_get]
  by_cases hij : j = i
  · subst hij
    rw [if_pos rfl, if_pos (by omega), List.getD_eq_getElem?_getD, List.getElem?_eq_getElem hj]
    rfl
  · rw [if_neg hij]
    by_cases h : i < j
    · rw [if_pos h, if_pos (by omega)]
    · rw [if_neg h, if_neg (by omega)]
theorem rowN_all (ws : List (List UInt8)) : rowN ws ws.length = (ws.map zW).map (encInt .i64) := by
  refine List.ext_getElem (by simp [rowN_len]) fun i h1 h2 => ?_
  have h3 : i < ws.length := by rwa [rowN_len] at h1
  rw [rowN_get, if_pos h3, List.getElem_map, List.getElem_map, List.getD_eq_getElem?_getD, List.getElem?_eq_getElem h3]
  rfl
/-- At the head of a round. -/
def NumRel (G : Nat) (w1 : World) (ws : List (List UInt8)) (j : Nat) (w : World) : Prop :=
  j ≤ ws.length ∧ Below w1.heap.size w1 w ∧ RowIs G w (rowN ws j) ∧ ∀ p ∈ ws.take j, parseE p ≠ 2
theorem NumRel.step {G : Nat} {w1 w w' : World} {ws : List (List UInt8)} {j : Nat} (h : NumRel G w1 ws j w) (hG : w1.heap.size ≤ G) (hj : j < ws.length) (hp : parseE ws[j] ≠ 2) (hb : Below w.heap.size w w') :
    NumRel G w1 ws (j + 1) (w'.setCell ⟨G, j, none⟩ (.int .i64 (zW ws[j]))) := by
  obtain ⟨h1, h2, h3, h4⟩ := h
  have hl := h3.lt (by rw [rowN_len]; omega)
  refine ⟨hj, (h2.trans (hb.mono h2.size)).setCell (p := ⟨G, j, none⟩) hG _, ?_, fun p hp' => ?_⟩
  · rw [← rowN_set ws j hj]
    exact (h3.on hb hl).set (by rw [rowN_len]; exact hj) _
  · rw [take_snoc ws j hj, List.mem_append] at hp'
    rcases hp' with hp' | hp'
    · exact h4 p hp'
    · rw [List.mem_singleton.1 hp']; exact hp
theorem NumRel.cell {G : Nat} {w1 w w' : World} {ws : List (List UInt8)} {j : Nat} (h : NumRel G w1 ws j w) (hj : j < ws.length) (hb : Below w.heap.size w w') :
    ∃ u, w'.cell? ⟨G, j, none⟩ = some u ∧ w'.frozen? ⟨G, j, none⟩ = false := by
  obtain ⟨h1, h2, h3, h4⟩ := h
  have hl := h3.lt (by rw [rowN_len]; omega)
  have := h3.on hb hl j (by rw [rowN_len]; exact hj)
  exact ⟨_, this⟩
def NumsOut (l : List UInt8) (k : Nat) (e : Ending) (w' : World) : Prop :=
  (numsB l k = true ∧ ∃ g, e = .returned (.tuple #[.slice (some ⟨g, 0, none⟩) k k, .bool true]) ∧ RowIs g w' (((wordsL l).map zW).map (encInt .i64))) ∨
  (numsB l k = false ∧ e = .returned (.tuple #[.slice none 0 0, .bool false]))
set_option maxHeartbeats 1000000 in
theorem numbers_any (s : ByteArray) (hs : s.size ≤ 100000000) (k : Nat) (hk0 : 0 < k) (hk : k ≤ 1000) (w : World) :
    Calls Try.prog 19 #[.string s, .int .i64 (k : Int)] w fun e w' => NumsOut s.data.toList k e w' ∧ Below w.heap.size w w' := by
  have HW := Lib.hid (Wd.words_any s hs w)
  have HYes : Hid ((wordsL s.data.toList).length = k → (∀ p ∈ wordsL s.data.toList, parseE p ≠ 2) → numsB s.data.toList k = true) := Lib.hid nums_yes
  have HLen : Hid ((wordsL s.data.toList).length ≠ k → numsB s.data.toList k = false) := Lib.hid nums_len
  have HNo : Hid (∀ p, p ∈ wordsL s.data.toList → parseE p = 2 → numsB s.data.toList k = false) := Lib.hid (fun p => nums_no)
  have HL0 : Hid (wordsB s.data.toList = false → wordsL s.data.toList = []) := Lib.hid words_no
  unfold NumsOut
  generalize wordsL s.data.toList = ws at *
  generalize wordsB s.data.toList = b at *
  generalize numsB s.data.toList k = nb at *
  by_cases hl : ws.length = k
  · subst hl
    have t : ((ws.length : Int) != (ws.length : Int)) = false := by simp
    have hbt : b = true := by
      cases b with
      | true => rfl
      | false => rw [HL0.out rfl] at hk0; simp at hk0
    subst hbt
    go_enter Try.func19, Try.ntmps19
    go_wp2_with fail
    refine HW.out.mono ?_
    rintro e w1 ⟨⟨q, c, rfl, hr, hc⟩, hb1⟩
    rcases hr with hr | ⟨g, off, rfl, hg, hcs⟩
    · rw [hr] at hk0; simp at hk0
    have hmk := makeRow (P := Try.prog) (T := 54) (E := 2) (z := .int .i64 0) (c := 8) Try.underlying54 (by kernel_rfl) (by decide) rfl ws.length (by omega) w1
    have HB1 := Lib.hid hb1
    have HR : Hid (∀ W j, Below w1.heap.size w1 W → ∀ h : j < ws.length, g < W.heap.size ∧ W.cell? ⟨g, off + j, none⟩ = some (encS ws[j])) := Lib.hid fun W j hW h => ⟨Nat.lt_of_lt_of_le hg hW.size, (hW.cell (p := ⟨g, off + j, none⟩) hg).trans (hcs j h)⟩
    have HS : Hid (NumRel w1.heap.size w1 ws 0 (w1.alloc (.cells (madeCells #[.int .i64 0] ws.length) 2))) := Lib.hid ⟨Nat.zero_le _, (Below.refl _ _).alloc (Nat.le_refl _) _, by rw [rowN_zero]; exact rowIs_made _ _ _ _, fun p hp => by simp at hp⟩
    clear hb1 hcs hg
    go_wp2
    go_loopw [30] (fun i wr => ∃ j : Nat, i = .int .i64 j ∧ Hid (NumRel w1.heap.size w1 ws j wr)) (fun i _ => ws.length - (intOf i).toNat)
    case atStart => exact ⟨0, rfl, HS⟩
    case round =>
      obtain ⟨j, rfl, HJ⟩ := hrel
      have hjk := HJ.out.1
      by_cases hj : j < ws.length
      · have i1 : (j : Int) < (ws.length : Int) := by omega
        obtain ⟨hlt, hcell⟩ := HR.out wr j HJ.out.2.1 hj
        have HP : Hid (Calls Try.prog 32 #[encS ws[j]] wr fun e w' => e = .returned (.tuple #[.int .i64 (parseN ws[j]), .int .i64 (parseE ws[j])]) ∧ Below wr.heap.size wr w') := Lib.hid (parse_any ⟨ws[j].toArray⟩ wr)
        have HSt : Hid (∀ w', parseE ws[j] ≠ 2 → Below wr.heap.size wr w' → NumRel w1.heap.size w1 ws (j + 1) (w'.setCell ⟨w1.heap.size, j, none⟩ (.int .i64 (zW ws[j])))) := Lib.hid fun w' h2 hb => HJ.out.step (Nat.le_refl _) hj h2 hb
        have HCe : Hid (∀ w', Below wr.heap.size wr w' → ∃ u, w'.cell? ⟨w1.heap.size, j, none⟩ = some u ∧ w'.frozen? ⟨w1.heap.size, j, none⟩ = false) := Lib.hid fun w' hb => HJ.out.cell hj hb
        have HBr := Lib.hid HJ.out.2.1
        have HN2 := Lib.hid (HNo.out ws[j] (List.getElem_mem hj))
        have H3 := Lib.hid (parse_three ws[j])
        clear HJ
        generalize ws[j] = p at *
        generalize parseE p = pe at *
        generalize parseN p = pn at *
        generalize zW p = pz at *
        unfold encS at hcell HP
        go_wp2_with fail
        refine HP.out.mono ?_
        rintro e w2 ⟨rfl, hb2⟩
        rcases H3.out with ⟨h1, h2⟩ | ⟨h1, h2⟩ | ⟨h1, h2⟩
        · subst h1
          have HB2 := Lib.hid (HB1.out.trans ((HBr.out.trans (hb2.mono HBr.out.size)).mono HB1.out.size))
          clear hb2
          go_wp2
          go_ret2
          exact ⟨Or.inr ⟨HN2.out (by trivial), rfl⟩, HB2.out⟩
        · subst h1
          subst h2
          have HN := Lib.hid (HSt.out w2 (by decide) hb2)
          obtain ⟨u, hc, hfz⟩ := HCe.out w2 hb2
          clear hb2
          go_wp2
          go_roundw
          case rel => exact ⟨j + 1, by go_num, HN⟩
          case measure => simp [intOf]; omega
        · subst h1
          subst h2
          have HN := Lib.hid (HSt.out w2 (by decide) hb2)
          obtain ⟨u, hc, hfz⟩ := HCe.out w2 hb2
          clear hb2
          go_wp2
          go_roundw
          case rel => exact ⟨j + 1, by go_num, HN⟩
          case measure => simp [intOf]; omega
      · obtain rfl : j = ws.length := by omega
        have HRow := Lib.hid HJ.out.2.2.1
        have HAll := Lib.hid HJ.out.2.2.2
        have HB2 := Lib.hid (HB1.out.trans (HJ.out.2.1.mono HB1.out.size))
        clear HJ
        go_wp2
        go_ret2
        refine ⟨Or.inl ⟨HYes.out (by trivial) (by have := HAll.out; rwa [List.take_length] at this), _, rfl, ?_⟩, HB2.out⟩
        have h := HRow.out
        rw [rowN_all] at h
        exact h
  · have HN := Lib.hid (HLen.out hl)
    have t : ((ws.length : Int) != (k : Int)) = true := by
      have : ¬ (ws.length : Int) = (k : Int) := by omega
      simpa using this
    clear hl
    go_enter Try.func19, Try.ntmps19
    go_wp2_with fail
    refine HW.out.mono ?_
    rintro e w1 ⟨⟨q, c, rfl, hr, hc⟩, hb1⟩
    have HB1 := Lib.hid hb1
    clear hb1 hr
    cases b <;>
    · go_wp2
      go_ret2
      exact ⟨Or.inr ⟨HN.out, rfl⟩, HB1.out⟩
end Go.Proofs.Ytflnmkgpmjefhaa.Gr
/- A block of two or three cells that a call made (a struct's result): what lies in it, over calls and stores. No function of the program is named. -/
namespace Go.Proofs.Ytflnmkgpmjefhaa
open Go.RowKit Go.ChangeShapes
def TwoAt (N : Nat) (w : World) (u v : Value) : Prop :=
  w.cell? ⟨N, 0, none⟩ = some u ∧ w.cell? ⟨N, 1, none⟩ = some v ∧ w.frozen? ⟨N, 0, none⟩ = false ∧ w.frozen? ⟨N, 1, none⟩ = false
theorem TwoAt.lt {N : Nat} {w : World} {u v : Value} (h : TwoAt N w u v) : N < w.heap.size := World.block_lt_of_cell? w _ h.1
theorem TwoAt.on {N M : Nat} {w w' : World} {u v : Value} (h : TwoAt N w u v) (hb : Below M w w') (hM : N < M) : TwoAt N w' u v := by
  obtain ⟨h0, h1, f0, f1⟩ := h
  exact ⟨(hb.cell (by exact hM)).trans h0, (hb.cell (by exact hM)).trans h1, (hb.frozen (by exact hM)).trans f0, (hb.frozen (by exact hM)).trans f1⟩
theorem TwoAt.new (w : World) (u v : Value) (T : TypeId) : TwoAt w.heap.size (w.alloc (.cells #[u, v] T)) u v :=
  ⟨by simp, by simp, by simp, by simp⟩
theorem TwoAt.set {N : Nat} {w : World} {u v : Value} (h : TwoAt N w u v) (a b : Value) : TwoAt N ((w.setCell ⟨N, 0, none⟩ a).setCell ⟨N, 1, none⟩ b) a b := by
  obtain ⟨h0, h1, f0, f1⟩ := h
  have h1' : (w.setCell ⟨N, 0, none⟩ a).cell? ⟨N, 1, none⟩ = some v := (World.cell?_setCell_other w ⟨N, 0, none⟩ ⟨N, 1, none⟩ _ (by simp)).trans h1
  refine ⟨(World.cell?_setCell_other _ ⟨N, 1, none⟩ ⟨N, 0, none⟩ _ (by simp)).trans (World.cell?_setCell_same _ _ _ h0), World.cell?_setCell_same _ _ _ h1', ?_, ?_⟩
  · simpa using f0
  · simpa using f1
def ThreeAt (N : Nat) (w : World) (u v x : Value) : Prop :=
  w.cell? ⟨N, 0, none⟩ = some u ∧ w.cell? ⟨N, 1, none⟩ = some v ∧ w.cell? ⟨N, 2, none⟩ = some x ∧ w.frozen? ⟨N, 0, none⟩ = false ∧ w.frozen? ⟨N, 1, none⟩ = false ∧ w.frozen? ⟨N, 2, none⟩ = false
theorem ThreeAt.lt {N : Nat} {w : World} {u v x : Value} (h : ThreeAt N w u v x) : N < w.heap.size := World.block_lt_of_cell? w _ h.1
theorem ThreeAt.on {N M : Nat} {w w' : World} {u v x : Value} (h : ThreeAt N w u v x) (hb : Below M w w') (hM : N < M) : ThreeAt N w' u v x := by
  obtain ⟨h0, h1, h2, f0, f1, f2⟩ := h
  exact ⟨(hb.cell (by exact hM)).trans h0, (hb.cell (by exact hM)).trans h1, (hb.cell (by exact hM)).trans h2, (hb.frozen (by exact hM)).trans f0, (hb.frozen (by exact hM)).trans f1, (hb.frozen (by exact hM)).trans f2⟩
theorem ThreeAt.new (w : World) (u v x : Value) (T : TypeId) : ThreeAt w.heap.size (w.alloc (.cells #[u, v, x] T)) u v x :=
  ⟨by simp, by simp, by simp, by simp, by simp, by simp⟩
theorem ThreeAt.set {N : Nat} {w : World} {u v x : Value} (h : ThreeAt N w u v x) (a b c : Value) : ThreeAt N (((w.setCell ⟨N, 0, none⟩ a).setCell ⟨N, 1, none⟩ b).setCell ⟨N, 2, none⟩ c) a b c := by
  obtain ⟨h0, h1, h2, f0, f1, f2⟩ := h
  have h1' : (w.setCell ⟨N, 0, none⟩ a).cell? ⟨N, 1, none⟩ = some v := (World.cell?_setCell_other w ⟨N, 0, none⟩ ⟨N, 1, none⟩ _ (by simp)).trans h1
  have h2' : ((w.setCell ⟨N, 0, none⟩ a).setCell ⟨N, 1, none⟩ b).cell? ⟨N, 2, none⟩ = some x := (World.cell?_setCell_other _ ⟨N, 1, none⟩ ⟨N, 2, none⟩ _ (by simp)).trans ((World.cell?_setCell_other w ⟨N, 0, none⟩ ⟨N, 2, none⟩ _ (by simp)).trans h2)
  have h0' : ((w.setCell ⟨N, 0, none⟩ a).setCell ⟨N, 1, none⟩ b).cell? ⟨N, 0, none⟩ = some a := (World.cell?_setCell_other _ ⟨N, 1, none⟩ ⟨N, 0, none⟩ _ (by simp)).trans (World.cell?_setCell_same _ _ _ h0)
  refine ⟨(World.cell?_setCell_other _ ⟨N, 2, none⟩ ⟨N, 0, none⟩ _ (by simp)).trans h0', (World.cell?_setCell_other _ ⟨N, 2, none⟩ ⟨N, 1, none⟩ _ (by simp)).trans (World.cell?_setCell_same _ _ _ h1'), World.cell?_setCell_same _ _ _ h2', ?_, ?_, ?_⟩
  · simpa using f0
  · simpa using f1
  · simpa using f2
end Go.Proofs.Ytflnmkgpmjefhaa
