/- Contracts of order and By: the order in which keys rise. The library's SortFunc is met by the shelf's contract. -/
import Derived.Test.YtemcbhbobfjnkaaRankCode
namespace Go.Proofs.Ytemcbhbobfjnkaa
open Go.RowKit Go.ChangeShapes RankPure
open Go.Sort hiding Below
theorem cfK_lt (ks : List Int) (i j : Nat) : cfK ks i j < 0 ↔ ltK ks i j := by
  unfold cfK orI Lib.compareInt ltK
  generalize ks.getD i 0 = x
  generalize ks.getD j 0 = y
  by_cases h1 : x < y
  · simp [h1]
  · by_cases h2 : y < x
    · simp [h1, h2]; omega
    · have h3 : x = y := by omega
      subst h3
      by_cases h4 : i < j
      · simp [h4]
      · by_cases h5 : j < i <;> simp [h4, h5]
def encF (n : Nat) (i : Fin n) : Value := .int .i64 ((i.val : Nat) : Int)
def cfF (ks : List Int) (i j : Fin ks.length) : Int := cfK ks i.val j.val
theorem cfF_lt (ks : List Int) (i j : Fin ks.length) : ltOf (cfF ks) i j = decide (ltK ks i.val j.val) := by
  unfold ltOf cfF
  by_cases h : ltK ks i.val j.val
  · rw [decide_eq_true h, decide_eq_true ((cfK_lt ks _ _).2 h)]
  · rw [decide_eq_false h, decide_eq_false (fun h' => h ((cfK_lt ks _ _).1 h'))]
theorem swoK (ks : List Int) : SWO (ltOf (cfF ks)) where
  irrefl x := by rw [cfF_lt]; exact decide_eq_false ltK_irrefl
  trans x y z h1 h2 := by
    rw [cfF_lt] at *
    simp only [decide_eq_true_eq] at *
    exact ltK_trans h1 h2
  ntrans x y z h1 h2 := by
    rw [cfF_lt] at *
    simp only [decide_eq_false_iff_not] at *
    unfold ltK at *; omega
theorem totK (ks : List Int) (x y : Fin ks.length) (h1 : ltOf (cfF ks) x y = false) (h2 : ltOf (cfF ks) y x = false) : x = y := by
  rw [cfF_lt] at *
  simp only [decide_eq_false_iff_not] at *
  refine Classical.byContradiction fun hne => ?_
  rcases ltK_total (ks := ks) (show x.val ≠ y.val from fun e => hne (Fin.ext e)) with h | h
  · exact h1 h
  · exact h2 h
theorem finRange_val (n : Nat) : (List.finRange n).map (fun i => i.val) = List.range n := by
  refine List.ext_getElem (by simp) fun i h1 h2 => ?_
  simp
theorem sorted_by (ks : List Int) : (((List.finRange ks.length).mergeSort fun x y => !ltOf (cfF ks) y x).map fun i => i.val) = byL ks := by
  refine by_unique ?_ ?_
  · have := (List.mergeSort_perm (List.finRange ks.length) (fun x y => !ltOf (cfF ks) y x)).map (fun i => i.val)
    rwa [finRange_val] at this
  · rw [List.pairwise_map]
    have := List.pairwise_mergeSort (le := fun x y : Fin ks.length => !ltOf (cfF ks) y x) (fun a b c h1 h2 => by
      simp only [cfF_lt] at *
      simp at *
      unfold ltK at *; omega) (fun a b => by
      simp only [cfF_lt]
      simp
      unfold ltK; omega) (List.finRange ks.length)
    exact this.imp (fun h => by simpa [cfF_lt] using h)
/-- What the sort leaves alone. -/
theorem sortWorld_below {α : Type} [Inhabited α] (enc : α → Value) (w : World) (blk off n : Nat) (d : Array α) (os : Array Obj) (hb : blk < w.heap.size) : Below blk w (sortWorld enc w blk off n d os) := by
  refine ⟨rfl, rfl, rfl, by simp [sortWorld], fun k hk => ?_⟩
  unfold sortWorld
  rw [heap_grow_old _ _ (by simp; omega)]
  simp only [putRow, mapBlock, Array.getElem?_modify, heap_ahead]
  rw [if_neg (by omega)]
theorem get_bang {α : Type} [Inhabited α] {l : List α} {i : Nat} (hi : i < l.length) : l.toArray[i]! = l[i] := by
  rw [List.getElem!_toArray, List.getElem!_eq_getElem?_getD, List.getElem?_eq_getElem hi]; rfl
theorem sort_any (blk K B : Nat) (a : Option Addr) (c : Nat) (ks : List Int) (h0 : 0 < ks.length) (hk : ks.length ≤ 1000) (w : World) (hblk : blk < w.heap.size) (hKb : K < blk) (hBb : B < blk)
    (hK : w.cell? ⟨K, 0, none⟩ = some (.func (.func 23) #[] #[.pointer (some ⟨B, 0, none⟩)])) (hB : w.cell? ⟨B, 0, none⟩ = some (.slice a ks.length c)) (hR : ReadsL encZ blk w a ks)
    (hrow : RowIs blk w ((zs (List.range ks.length)).map encZ)) :
    Calls Try.prog 31 #[.slice (some ⟨blk, 0, none⟩) ks.length ks.length, .func (.func 32) #[] #[.pointer (some ⟨K, 0, none⟩)]] w fun e w' =>
      e = .returned (.tuple #[]) ∧ Below blk w w' ∧ RowIs blk w' ((zs (byL ks)).map encZ) ∧ w.heap.size ≤ w'.heap.size := by
  haveI : Inhabited (Fin ks.length) := ⟨⟨0, h0⟩⟩
  have hsz : (List.finRange ks.length).toArray.size = ks.length := by simp
  have hH : Holds (encF ks.length) w blk 0 (List.finRange ks.length).toArray := by
    intro j hj
    rw [hsz] at hj
    have := hrow j (by rw [List.length_map, zs_len, List.length_range]; exact hj)
    rw [get_bang (by simpa using hj), Nat.zero_add]
    refine ⟨?_, this.2⟩
    rw [this.1]
    unfold encF zs encZ
    simp
  have hcmp : CmpLays1 Try.prog 32 #[.pointer (some ⟨K, 0, none⟩)] (encF ks.length) (cfF ks) blk 0 (List.finRange ks.length).toArray.size w := by
    intro m os dk _ x y
    have hb := sortWorld_below (encF ks.length) w blk 0 m dk os hblk
    exact ahead_any K B a c ks x.val y.val x.isLt y.isLt _ ((hb.cell (p := ⟨K, 0, none⟩) hKb).trans hK) ((hb.cell (p := ⟨B, 0, none⟩) hBb).trans hB) ((hR.on hb).mono (Nat.le_trans (Nat.le_of_lt hblk) hb.size))
  have hS := Any.slices_SortFunc_total Try.laysSortF (encF ks.length) (fun _ => rfl) (cfF ks) (swoK ks) 32 #[.pointer (some ⟨K, 0, none⟩)] blk 0 ks.length (List.finRange ks.length).toArray w
    (enters_of Try.func32 (by kernel_rfl) rfl) hcmp hH hblk (by rw [hsz]; omega) (totK ks)
  rw [hsz] at hS
  refine Calls.mono hS ?_
  rintro e w' ⟨rfl, n, os, rfl⟩
  have hb := sortWorld_below (encF ks.length) w blk 0 n ((List.finRange ks.length).mergeSort fun x y => !ltOf (cfF ks) y x).toArray os hblk
  refine ⟨rfl, hb, fun i hi => ?_, hb.size⟩
  rw [List.length_map, zs_len, byL_len] at hi
  have hh := holds_sortWorld (encF ks.length) w blk 0 n (List.finRange ks.length).toArray ((List.finRange ks.length).mergeSort fun x y => !ltOf (cfF ks) y x).toArray os hblk hH (by simp) i (by simpa using hi)
  rw [get_bang (by simpa using hi), Nat.zero_add] at hh
  refine ⟨hh.1.trans ?_, hh.2⟩
  unfold zs encZ encF
  simp only [← sorted_by]
  simp
set_option maxHeartbeats 400000 in
theorem order_any (B : Nat) (a : Option Addr) (c : Nat) (ks : List Int) (hk : ks.length ≤ 1000) (w : World) (hBw : B < w.heap.size)
    (hB : w.cell? ⟨B, 0, none⟩ = some (.slice a ks.length c)) (hR : ReadsL encZ w.heap.size w a ks) :
    Calls Try.prog 22 #[.int .i64 (ks.length : Int), .func (.func 23) #[] #[.pointer (some ⟨B, 0, none⟩)]] w fun e w' =>
      ∃ g, e = .returned (.slice (some ⟨g, 0, none⟩) ks.length ks.length) ∧ w.heap.size ≤ g ∧ Below w.heap.size w w' ∧ g < w'.heap.size ∧ RowIs g w' ((zs (byL ks)).map encZ) := by
  have hmf' := hmf
  obtain ⟨w0, hw0⟩ : ∃ w0, w.alloc (.cells #[.func (.func 23) #[] #[.pointer (some ⟨B, 0, none⟩)]] 40) = w0 := ⟨_, rfl⟩
  have hc0 : w0.cell? ⟨w.heap.size, 0, none⟩ = some (.func (.func 23) #[] #[.pointer (some ⟨B, 0, none⟩)]) := by rw [← hw0]; simp
  have hs0 : w0.heap.size = w.heap.size + 1 := by rw [← hw0]; simp
  have hb0 : Below w.heap.size w w0 := by rw [← hw0]; exact (Below.refl _ _).alloc (Nat.le_refl _) _
  have HW0 := Lib.hid hw0
  have HF : Hid (Calls Try.prog 25 #[.int .i64 (ks.length : Int), .func (.func 30) #[] #[]] w0 fun e w' => e = .returned (.slice (some ⟨w0.heap.size, 0, none⟩) ks.length ks.length) ∧ FillRel (fun i => (i : Int)) w0 ks.length ks.length w') :=
    Lib.hid (fill_any 30 #[] (fun i => (i : Int)) ks.length hk w0 (enters_of Try.func30 (by kernel_rfl) rfl)
      (fun i W _ _ => Calls.mono (self_any i W) fun e w' ⟨h1, h2⟩ => ⟨h1, 0, h2⟩))
  have HB := Lib.hid (And.intro hb0 (And.intro hB hR))
  have HZ := Lib.hid hs0
  clear hw0 hb0 hB hR hs0
  go_enter Try.func22, Try.ntmps22
  go_wp2_with fail
  rw [HW0.out]
  refine HF.out.mono ?_
  rintro e w1 ⟨rfl, h1, h2, h3, h4⟩
  have hb1 : Below w.heap.size w w1 := HB.out.1.trans (h2.mono (by have := HZ.out; omega))
  have hc1 := (h2.cell (p := ⟨w.heap.size, 0, none⟩) (by have := HZ.out; simp; omega)).trans hc0
  have H1 := Lib.hid (And.intro hb1 (And.intro hc1 (And.intro h3 h4)))
  clear h1 h2 h3 h4 hb1 hc1 hc0
  by_cases hn : ks.length = 0
  · have hnil : ks = [] := List.length_eq_zero_iff.1 hn
    subst hnil
    have HN : Hid (Calls Try.prog 31 #[.slice (some ⟨w0.heap.size, 0, none⟩) 0 0, .func (.func 32) #[] #[.pointer (some ⟨w.heap.size, 0, none⟩)]] w1 fun e w' => e = .returned (.tuple #[]) ∧ w' = w1) :=
      Lib.hid (AnyF.slices_SortFunc_none (P := Try.prog) (ρ := Try.laysSortF_ren) { Try.laysSortF with } (some ⟨w0.heap.size, 0, none⟩) 0 (.func (.func 32) #[] #[.pointer (some ⟨w.heap.size, 0, none⟩)]) w1)
    clear hn
    go_wp2_with fail
    refine (HN.out).mono ?_
    rintro e w2 ⟨rfl, rfl⟩
    go_wp2
    go_ret
    refine ⟨w0.heap.size, rfl, by have := HZ.out; omega, H1.out.1, H1.out.2.2.2, ?_⟩
    intro i hi
    rw [List.length_map, zs_len, byL_len] at hi
    simp at hi
  · have HS := Lib.hid (sort_any w0.heap.size w.heap.size B a c ks (by omega) hk w1 H1.out.2.2.2 (by have := HZ.out; omega) (by have := HZ.out; omega) H1.out.2.1
      ((H1.out.1.cell (p := ⟨B, 0, none⟩) hBw).trans HB.out.2.1) ((HB.out.2.2.on H1.out.1).mono (by have := HZ.out; omega)) (by
        have := H1.out.2.2.1
        rwa [fillV_whole] at this))
    go_wp2_with fail
    refine (HS.out).mono ?_
    rintro e w2 ⟨rfl, hb2, hr2, hz2⟩
    have H2 := Lib.hid (And.intro hb2 (And.intro hr2 hz2))
    clear hb2 hr2 hz2
    go_wp2
    go_ret
    exact ⟨w0.heap.size, rfl, by have := HZ.out; omega, H1.out.1.trans (H2.out.1.mono (by have := HZ.out; omega)), Nat.lt_of_lt_of_le H1.out.2.2.2 H2.out.2.2, H2.out.2.1⟩
set_option maxHeartbeats 400000 in
theorem by_any (a : Option Addr) (c : Nat) (ks : List Int) (hk : ks.length ≤ 1000) (w : World) (hR : ReadsL encZ w.heap.size w a ks) :
    Calls Try.prog 10 #[.slice a ks.length c] w fun e w' =>
      ∃ g, e = .returned (.slice (some ⟨g, 0, none⟩) ks.length ks.length) ∧ w.heap.size ≤ g ∧ Below w.heap.size w w' ∧ ReadsL encZ w'.heap.size w' (some ⟨g, 0, none⟩) (zs (byL ks)) := by
  have hmf' := hmf
  obtain ⟨w0, hw0⟩ : ∃ w0, w.alloc (.cells #[.slice a ks.length c] 22) = w0 := ⟨_, rfl⟩
  have hc0 : w0.cell? ⟨w.heap.size, 0, none⟩ = some (.slice a ks.length c) := by rw [← hw0]; simp
  have hs0 : w0.heap.size = w.heap.size + 1 := by rw [← hw0]; simp
  have hb0 : Below w.heap.size w w0 := by rw [← hw0]; exact (Below.refl _ _).alloc (Nat.le_refl _) _
  have HO := Lib.hid (order_any w.heap.size a c ks hk w0 (by omega) hc0 (hR.over hb0 (Nat.le_refl _)))
  have HW0 := Lib.hid hw0
  have HB := Lib.hid hb0
  have HZ := Lib.hid hs0
  clear hR hw0 hb0 hs0
  go_enter Try.func10, Try.ntmps10
  go_wp2_with fail
  rw [HW0.out]
  refine HO.out.mono ?_
  rintro e w1 ⟨g, rfl, hg, hb1, hl1, hr1⟩
  have H1 := Lib.hid (And.intro hb1 (And.intro hl1 hr1))
  clear hb1 hl1 hr1
  go_wp2
  go_ret
  exact ⟨g, rfl, by have := HZ.out; omega, HB.out.trans (H1.out.1.mono (by have := HZ.out; omega)), H1.out.2.2.reads⟩
end Go.Proofs.Ytemcbhbobfjnkaa
