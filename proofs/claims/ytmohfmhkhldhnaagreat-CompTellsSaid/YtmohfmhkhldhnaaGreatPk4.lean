/- New classes: each vertex is one by itself; as many as were asked for, as far as there is room. -/
import Derived.Test.YtmohfmhkhldhnaaGreatPk3
namespace Go.Proofs.YtmohfmhkhldhnaaGreat.Ds
open Go.RowKit Go.ChangeShapes Go.Maps DsuPure
/-- The room that is made where n is asked for. -/
def roomN (n : Int) : Nat := (min (max n 0) 4096).toNat
theorem roomN_le (n : Int) : roomN n ≤ 4096 := by unfold roomN; omega
theorem roomN_of (n : Nat) (h : n ≤ 4096) : roomN (n : Int) = n := by unfold roomN; omega
def seqL (n k : Nat) : List Nat := (List.range n).map fun i => if i < k then i else 0
theorem seq_full (n : Nat) : seqL n n = List.range n := by
  unfold seqL
  refine List.ext_getElem (by simp) fun i h1 h2 => ?_
  have : i < n := by simpa using h1
  simp [this]
theorem seq_zero (n : Nat) : (seqL n 0).map encI = List.replicate n (.int .i64 0) := by
  unfold seqL
  refine List.ext_getElem (by simp) fun i h1 h2 => ?_
  simp [encI]
theorem seq_len (n k : Nat) : (seqL n k).length = n := by simp [seqL]
theorem seq_set {n k : Nat} (_h : k < n) : (seqL n k).set k k = seqL n (k + 1) := by
  unfold seqL
  refine List.ext_getElem (by simp) fun i h1 h2 => ?_
  by_cases e : k = i
  · subst e; simp
  · rw [List.getElem_set_ne e]
    simp only [List.getElem_map, List.getElem_range]
    by_cases l : i < k
    · rw [if_pos l, if_pos (by omega)]
    · rw [if_neg l, if_neg (by omega)]
/-- At the head of a round: the first k vertices are laid. -/
def NewRel (w : World) (b g m n k : Nat) (W : World) : Prop :=
  k ≤ n ∧ Below w.heap.size w W ∧ w.heap.size ≤ b ∧ w.heap.size ≤ g ∧ w.heap.size ≤ m ∧ b ≠ g ∧ b ≠ m ∧ g ≠ m ∧ g < W.heap.size ∧ TwoAt b W (.slice (some ⟨g, 0, none⟩) n n) (.map (some m)) ∧
  RowIs g W ((seqL n k).map encI) ∧ ∃ D, OwnsD W m k D ∧ MapIs k (fun x => x) D
theorem NewRel.drew {w W : World} {b g m n k : Nat} (h : NewRel w b g m n k W) : NewRel w b g m n k W.drew := by
  obtain ⟨a1, a2, a3⟩ := h
  exact ⟨a1, a2.drew, a3⟩
theorem NewRel.row {w W : World} {b g m n k : Nat} (h : NewRel w b g m n k W) (hk : k < n) :
    W.cell? ⟨b, 0, none⟩ = some (.slice (some ⟨g, 0, none⟩) n n) ∧ W.cell? ⟨b, 1, none⟩ = some (.map (some m)) ∧ (∃ v, W.cell? ⟨g, k, none⟩ = some v) ∧ W.frozen? ⟨g, k, none⟩ = false := by
  obtain ⟨a1, a2, a3, a4, a5, a6, a7, a8, a9, a10, a11, a12⟩ := h
  have := a11 k (by rw [List.length_map, seq_len]; exact hk)
  exact ⟨a10.1, a10.2.1, ⟨_, this.1⟩, this.2⟩
/-- The list's place is laid; then the map's. -/
def HalfRel (w : World) (b g m n k : Nat) (D : DataW Unit) (W : World) : Prop :=
  k < n ∧ Below w.heap.size w W ∧ w.heap.size ≤ b ∧ w.heap.size ≤ g ∧ w.heap.size ≤ m ∧ b ≠ g ∧ b ≠ m ∧ g ≠ m ∧ g < W.heap.size ∧ TwoAt b W (.slice (some ⟨g, 0, none⟩) n n) (.map (some m)) ∧
  RowIs g W ((seqL n (k + 1)).map encI) ∧ OwnsD W m k D ∧ MapIs k (fun x => x) D
theorem NewRel.half {w W : World} {b g m n k : Nat} (h : NewRel w b g m n k W) (hk : k < n) : ∃ D, HalfRel w b g m n k D (W.setCell ⟨g, k, none⟩ (.int .i64 (k : Int))) := by
  obtain ⟨a1, a2, a3, a4, a5, a6, a7, a8, a9, a10, a11, D, a12, a13⟩ := h
  have hg : W.grownBy (W.setCell ⟨g, k, none⟩ (.int .i64 (k : Int))) (some g) := ⟨rfl, rfl, rfl, by simp, fun k _ hk => Below.heap_setCell _ _ _ k (fun e => hk (by rw [e]))⟩
  have hr := a11.set (k := k) (by rw [List.length_map, seq_len]; exact hk) (encI k)
  rw [← List.map_set, seq_set hk] at hr
  exact ⟨D, hk, a2.grown hg a2.size (fun j e => by cases e; exact a4), a3, a4, a5, a6, a7, a8, by simpa using a9, Turns.two a10 (Turns.grownG (m := g) hg) a6 a6, hr, map_over a12 (hg.block m a12.lt (fun e => a8 (Option.some.inj e).symm)), a13⟩
theorem HalfRel.next {w W W' : World} {b g m n k : Nat} {D : DataW Unit} (h : HalfRel w b g m n k D W) (hg : W.grownBy W' (some m)) (hD : OwnsD W' m (k + 1) (D.put (kI (k : Int)) (dI 1))) : NewRel w b g m n (k + 1) W' := by
  obtain ⟨a1, a2, a3, a4, a5, a6, a7, a8, a9, a10, a11, a12, a13⟩ := h
  have ht : Turns m m W W' := Turns.grownM hg
  exact ⟨a1, a2.grown hg a2.size (fun j e => by cases e; exact a5), a3, a4, a5, a6, a7, a8, Nat.lt_of_lt_of_le a9 hg.size, Turns.two a10 ht a7 a7, Turns.row a11 a9 ht a8 a8, _, hD, map_next a13⟩
theorem NewRel.end {w W : World} {b g m n : Nat} (h : NewRel w b g m n n W) (hn : n ≤ 4096) : Below w.heap.size w W ∧ w.heap.size ≤ b ∧ w.heap.size ≤ g ∧ w.heap.size ≤ m ∧ ClsAt b g m W n fun x => x := by
  obtain ⟨a1, a2, a3, a4, a5, a6, a7, a8, a9, a10, a11, D, a12, a13⟩ := h
  rw [seq_full] at a11
  have h1 := map_tight a12
  rw [a13.2.2.2] at h1
  exact ⟨a2, a3, a4, a5, hn, names_id n, a6, a7, a8, a9, a10, ⟨_, up_start n, a11⟩, D, h1, a13⟩
theorem make_ints (k : Nat) (hk : k ≤ 1000000) (w : World) :
    (Instr.makeSlice 32 (.int .i64 (k : Int)) (.int .i64 (k : Int))).run Tryz.prog w = .ok (.slice (some ⟨w.heap.size, 0, none⟩) k k) (w.alloc (.cells (madeCells #[.int .i64 0] k) 3)) :=
  makeRow Tryz.underlying32 (z := .int .i64 0) (c := 8) (by kernel_rfl) (by omega) rfl k hk w
set_option maxRecDepth 100000 in
theorem make_map (k : Int) (w : World) : (Instr.makeMap 98 (some (.int .i64 k))).run Tryz.prog w = .ok (.map (some w.heap.size)) (w.alloc (.map #[] 0)) := rfl
theorem new_start (w W : World) (b g m n : Nat) (hw : Below w.heap.size w W) (h1 : w.heap.size ≤ b) (h2 : w.heap.size ≤ g) (h3 : w.heap.size ≤ m) (e1 : b ≠ g) (e2 : b ≠ m) (e3 : g ≠ m) (hg : g < W.heap.size)
    (ht : TwoAt b W (.slice (some ⟨g, 0, none⟩) n n) (.map (some m))) (hr : RowIs g W (List.replicate n (.int .i64 0))) (hm : OwnsD W m 0 (.map [])) : NewRel w b g m n 0 W :=
  ⟨Nat.zero_le _, hw, h1, h2, h3, e1, e2, e3, hg, ht, by rw [seq_zero]; exact hr, _, hm, map_zero⟩
theorem new_start1 (w : World) (n : Nat) (T T' : TypeId) :
    NewRel w (w.heap.size + 2) w.heap.size (w.heap.size + 1) n 0 (((w.alloc (.cells (madeCells #[.int .i64 0] n) T)).alloc (.map #[] 0)).alloc (.cells #[.slice (some ⟨w.heap.size, 0, none⟩) n n, .map (some (w.heap.size + 1))] T')) := by
  have b1 := (Below.refl w.heap.size w).alloc (Nat.le_refl _) (.cells (madeCells #[.int .i64 0] n) T)
  have r1 := rowIs_made w (.int .i64 0) n T
  generalize hw1 : w.alloc (.cells (madeCells #[.int .i64 0] n) T) = w1 at *
  have s1 : w1.heap.size = w.heap.size + 1 := by rw [← hw1]; simp
  have m1 : OwnsD (w1.alloc (.map #[] 0)) w1.heap.size 0 (.map []) := World.ownsMap_made w1 _ _ _
  have b2 := (Below.refl w1.heap.size w1).alloc (Nat.le_refl _) (.map #[] 0)
  generalize hw2 : w1.alloc (.map #[] 0) = w2 at *
  have s2 : w2.heap.size = w.heap.size + 2 := by rw [← hw2]; simp [s1]
  have t3 := TwoAt.new w2 (.slice (some ⟨w.heap.size, 0, none⟩) n n) (.map (some (w.heap.size + 1))) T'
  have b3 := (Below.refl w2.heap.size w2).alloc (Nat.le_refl _) (.cells #[.slice (some ⟨w.heap.size, 0, none⟩) n n, .map (some (w.heap.size + 1))] T')
  generalize hw3 : w2.alloc (.cells #[.slice (some ⟨w.heap.size, 0, none⟩) n n, .map (some (w.heap.size + 1))] T') = w3 at *
  have s3 : w3.heap.size = w.heap.size + 3 := by rw [← hw3]; simp [s2]
  rw [s1] at b2 m1
  rw [s2] at b3 t3
  exact new_start w w3 _ _ _ n ((b1.trans (b2.mono (by omega))).trans (b3.mono (by omega))) (by omega) (Nat.le_refl _) (by omega) (by omega) (by omega) (by omega) (by omega) t3
    ((r1.on b2 (by omega)).on b3 (by omega)) (map_over m1 (b3.block _ (by omega)))
theorem new_start2 (w : World) (n : Nat) (T T' : TypeId) :
    NewRel w (w.heap.size + 2) (w.heap.size + 1) w.heap.size n 0 (((w.alloc (.map #[] 0)).alloc (.cells (madeCells #[.int .i64 0] n) T)).alloc (.cells #[.slice (some ⟨w.heap.size + 1, 0, none⟩) n n, .map (some w.heap.size)] T')) := by
  have m1 : OwnsD (w.alloc (.map #[] 0)) w.heap.size 0 (.map []) := World.ownsMap_made w _ _ _
  have b1 := (Below.refl w.heap.size w).alloc (Nat.le_refl _) (.map #[] 0)
  generalize hw1 : w.alloc (.map #[] 0) = w1 at *
  have s1 : w1.heap.size = w.heap.size + 1 := by rw [← hw1]; simp
  have r1 := rowIs_made w1 (.int .i64 0) n T
  have b2 := (Below.refl w1.heap.size w1).alloc (Nat.le_refl _) (.cells (madeCells #[.int .i64 0] n) T)
  generalize hw2 : w1.alloc (.cells (madeCells #[.int .i64 0] n) T) = w2 at *
  have s2 : w2.heap.size = w.heap.size + 2 := by rw [← hw2]; simp [s1]
  have t3 := TwoAt.new w2 (.slice (some ⟨w.heap.size + 1, 0, none⟩) n n) (.map (some w.heap.size)) T'
  have b3 := (Below.refl w2.heap.size w2).alloc (Nat.le_refl _) (.cells #[.slice (some ⟨w.heap.size + 1, 0, none⟩) n n, .map (some w.heap.size)] T')
  generalize hw3 : w2.alloc (.cells #[.slice (some ⟨w.heap.size + 1, 0, none⟩) n n, .map (some w.heap.size)] T') = w3 at *
  have s3 : w3.heap.size = w.heap.size + 3 := by rw [← hw3]; simp [s2]
  rw [s1] at b2 r1
  rw [s2] at b3 t3
  exact new_start w w3 _ _ _ n ((b1.trans (b2.mono (by omega))).trans (b3.mono (by omega))) (by omega) (by omega) (Nat.le_refl _) (by omega) (by omega) (by omega) (by omega) t3
    (r1.on b3 (by omega)) (map_over (map_over m1 (b2.block _ (by omega))) (b3.block _ (by omega)))
set_option maxRecDepth 100000 in
set_option maxHeartbeats 2000000 in
theorem new_any (n : Int) (w : World) :
    Calls Tryz.prog 51 #[.int .i64 n] w fun e w' => ∃ b g m, e = .returned (.pointer (some ⟨b, 0, none⟩)) ∧ Below w.heap.size w w' ∧ w.heap.size ≤ b ∧ w.heap.size ≤ g ∧ w.heap.size ≤ m ∧ ClsAt b g m w' (roomN n) fun x => x := by
  obtain ⟨r, hr⟩ : ∃ r, r = roomN n := ⟨_, rfl⟩
  have hr4 := roomN_le n
  rw [← hr] at hr4 ⊢
  have hmk := fun w => make_ints r (by omega) w
  have hmm := fun w => make_map r w
  have HR := Lib.hid hr
  clear hr
  go_enter Tryz.func51, Tryz.ntmps51
  go_upto_region 1 with fail
  go_cut [0] from 5 to 7 (fun v wx => v = .int .i64 (r : Int) ∧ w = wx)
  case first =>
    by_cases a : n < 0
    · have hz : r = 0 := by rw [HR.out]; unfold roomN; omega
      have a1 : max n 0 = 0 := by omega
      clear hmk hmm
      go_wp2_with fail
      go_meet
      case rel => exact ⟨by rw [hz]; rfl, rfl⟩
    · by_cases c : 4096 < n
      · have hz : r = 4096 := by rw [HR.out]; unfold roomN; omega
        have a1 : ¬ max n 0 < 4096 := by omega
        clear hmk hmm
        go_wp2_with fail
        go_meet
        case rel => exact ⟨by rw [hz]; rfl, rfl⟩
      · have hz : n = (r : Int) := by rw [HR.out]; unfold roomN; omega
        clear HR
        subst hz
        clear hmk hmm
        go_wp2_with fail
        go_meet
        case rel => exact ⟨rfl, rfl⟩
  case rest =>
    obtain ⟨rfl, rfl⟩ := hcut
    go_upto_region 2 with fail
    go_cut [3] from 8 to 13 (fun c wx => ∃ b g m, c = .pointer (some ⟨b, 0, none⟩) ∧ Hid (NewRel w b g m r 0 wx))
    case first =>
      go_region
      all_goals go_wp2_with fail
      all_goals go_meet
      case rel => exact ⟨_, _, _, rfl, Lib.hid (new_start1 w r _ _).drew⟩
      case rel => exact ⟨_, _, _, rfl, Lib.hid (new_start2 w r _ _).drew⟩
    case rest =>
      obtain ⟨b, g, m, rfl, HN⟩ := hcut
      clear hmk hmm
      go_wp2_with fail
      go_loopw [15] (fun i wr => ∃ k : Nat, i = .int .i64 k ∧ Hid (NewRel w b g m r k wr)) (fun i _ => r - (intOf i).toNat)
      case atStart => exact ⟨0, rfl, HN⟩
      case round =>
        obtain ⟨k, rfl, HK⟩ := hrel
        have hk := HK.out.1
        by_cases hlt : k < r
        · obtain ⟨c0, c1, ⟨x, c2⟩, f2⟩ := HK.out.row hlt
          obtain ⟨D, hH⟩ := HK.out.half hlt
          have HH := Lib.hid hH
          have i0 : (0 : Int) ≤ (k : Int) := by omega
          have i1 : (k : Int) < (r : Int) := by omega
          clear hH HN
          go_upto_region 7 with fail
          generalize wr.setCell ⟨g, k, none⟩ (.int .i64 (k : Int)) = W at *
          have c1' := HH.out.2.2.2.2.2.2.2.2.2.1.2.1
          clear c0 c1 c2 f2 HK
          go_wp2_with (first
            | (at_mapUpdate; refine wpList_mapUpdate_own _ rfl _ _ _ 98 rfl 3 3 law Tryz.underlying98 _ m k D rfl HH.out.2.2.2.2.2.2.2.2.2.2.2.1 (by unfold maxLen; omega) _ _ (kI (k : Int)) rfl rfl (keyI (by omega) (by omega)) (dI 1) [] (plainElem_int Tryz.underlying3 (by decide)) ?_; intro w4 hown4 hg4; have HN4 := Lib.hid (HH.out.next hg4 hown4); clear hg4 hown4 c1' HH)
            | go_in)
          go_roundw
          case rel => exact ⟨k + 1, by go_num, HN4⟩
          case measure => (simp [intOf] <;> omega)
        · have hke : k = r := by omega
          subst hke
          go_wp2
          go_ret
          exact ⟨b, g, m, rfl, HK.out.end hr4⟩
end Go.Proofs.YtmohfmhkhldhnaaGreat.Ds
