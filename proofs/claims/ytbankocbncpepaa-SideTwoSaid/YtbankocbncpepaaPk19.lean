/- side's small functions: Check, isVertex, has (the library's search by halves), others. -/
import Derived.Test.YtbankocbncpepaaPk13
import Derived.Test.YtbankocbncpepaaPk18
import Derived.Maps.AppendAt
namespace Go.Proofs.Ytbankocbncpepaa.Sd
open Go.RowKit Go.ChangeShapes EdPure NtPure CutPure SdPure Cm
theorem isV_any (n v : Int) (w : World) :
    Calls Try.prog 34 #[.int .i64 n, .int .i64 v] w fun e w' => e = .returned (.bool (decide (0 ≤ v) && decide (v < n))) ∧ w = w' := by
  by_cases h1 : 0 ≤ v
  · have HE : Hid ((decide (0 ≤ v) && decide (v < n)) = decide (v < n)) := Lib.hid (by simp [h1])
    go_enter Try.func34, Try.ntmps34
    go_wp2
    go_ret
    exact ⟨bool_ret HE.out.symm, rfl⟩
  · have HE : Hid ((decide (0 ≤ v) && decide (v < n)) = false) := Lib.hid (by simp [h1])
    go_enter Try.func34, Try.ntmps34
    go_wp2
    go_ret
    exact ⟨bool_ret HE.out.symm, rfl⟩
/-- At the head of a round: what came so far may be, y is the last of it (or -1). -/
def AhSt (n : Int) (l : List Int) (k : Nat) (y : Int) : Prop := RightS n (l.take k) ∧ ∀ x, RightS n (l.take k ++ [x]) ↔ (y < x ∧ x < n)
theorem ah_start (n : Int) (l : List Int) : AhSt n l 0 (-1) := by
  refine ⟨⟨fun v hv => by simp at hv, by simp⟩, fun x => ?_⟩
  rw [right_snoc]
  constructor
  · rintro ⟨-, h, -⟩; omega
  · intro h
    exact ⟨⟨fun v hv => by simp at hv, by simp⟩, by omega, fun y hy => by simp at hy⟩
theorem ah_next {n : Int} {l : List Int} {k : Nat} {y : Int} (h : AhSt n l k y) (hk : k < l.length) (h1 : y < l[k]) (h2 : l[k] < n) : AhSt n l (k + 1) l[k] := by
  have hR : RightS n (l.take (k + 1)) := by rw [take_one hk]; exact (h.2 _).2 ⟨h1, h2⟩
  refine ⟨hR, fun x => ?_⟩
  rw [right_snoc, take_last hk]
  have h0 := hR.1 l[k] (by rw [take_one hk]; exact List.mem_append_right _ (List.mem_singleton.2 rfl))
  constructor
  · rintro ⟨-, h3, h4⟩
    exact ⟨h4 _ rfl, h3.2⟩
  · rintro ⟨h3, h4⟩
    exact ⟨hR, by omega, fun z hz => by cases hz; exact h3⟩
theorem ah_bad {n : Int} {l : List Int} {k : Nat} {y : Int} (h : AhSt n l k y) (hk : k < l.length) (h1 : ¬ (y < l[k] ∧ l[k] < n)) : chkS n l = 4 :=
  chk_bad (k := k + 1) (fun e => h1 ((h.2 _).1 (by rw [← take_one hk]; exact e)))
set_option maxHeartbeats 1000000 in
theorem checkD_any (n : Int) (a : Option Addr) (c : Nat) (l : List Int) (hl : l.length ≤ 1000000000) (w : World) (hR : ReadsL encZ w.heap.size w a l) :
    Calls Try.prog 15 #[.int .i64 n, .slice a l.length c] w fun e w' => e = .returned (.int .i64 (chkS n l)) ∧ ∃ m, w' = w.drewN m := by
  have HR := Lib.hid hR
  clear hR
  go_enter Try.func15, Try.ntmps15
  go_wp2
  go_loopw [5, 10] (fun s i wr => ∃ (k m : Nat) (y : Int), s = .int .i64 y ∧ i = .int .i64 k ∧ k ≤ l.length ∧ Hid (AhSt n l k y) ∧ wr = w.drewN m) (fun _ i _ => l.length - (intOf i).toNat)
  case atStart => exact ⟨0, 0, -1, rfl, rfl, Nat.zero_le _, Lib.hid (ah_start n l), rfl⟩
  case round =>
    obtain ⟨k, m, y, rfl, rfl, hk, HK, rfl⟩ := hrel
    by_cases hlt : k < l.length
    · have i1 : (k : Int) < (l.length : Int) := by omega
      have i0 : (0 : Int) ≤ (k : Int) := by omega
      obtain ⟨b, off, rfl, hbN, hc0⟩ := HR.out.at hlt
      have hc : w.cell? ⟨b, off + k, none⟩ = some (encZ l[k]) := hc0
      have HN := Lib.hid (ah_next HK.out hlt)
      have HB := Lib.hid (ah_bad HK.out hlt)
      clear hc0
      generalize l[k] = x at *
      unfold encZ at hc
      by_cases c1 : x ≤ y
      · have HX := Lib.hid (HB.out (by omega))
        have t1 : decide (x ≤ y) = true := by simpa using c1
        go_wp2
        go_ret
        exact ⟨ret_i HX.out.symm, _, rfl⟩
      · have t1 : decide (x ≤ y) = false := by simpa using c1
        by_cases c2 : n ≤ x
        · have HX := Lib.hid (HB.out (by omega))
          have t2 : decide (n ≤ x) = true := by simpa using c2
          have t3 : decide (x ≥ n) = true := by simpa using c2
          go_wp2
          go_ret
          exact ⟨ret_i HX.out.symm, _, rfl⟩
        · have HX := Lib.hid (HN.out (by omega) (by omega))
          have t2 : decide (n ≤ x) = false := by simpa using c2
          have t3 : decide (x ≥ n) = false := by simpa using c2
          go_wp2
          go_roundw
          case rel => exact ⟨k + 1, _, x, rfl, by go_num, hlt, HX, rfl⟩
          case measure => simp [intOf]; omega
    · have HX : Hid (chkS n l = if l = [] ∨ (l.length : Int) = n then 16 else 0) := Lib.hid (chk_good (by have := HK.out.1; rwa [List.take_of_length_le (by omega)] at this))
      have hke : k = l.length := by omega
      subst hke
      by_cases c1 : l.length = 0
      · have HY : Hid (chkS n l = 16) := Lib.hid (by rw [HX.out, if_pos (Or.inl (List.length_eq_zero_iff.1 c1))])
        have t1 : ((l.length : Int) == 0) = true := by simpa using c1
        clear c1
        go_wp2
        go_ret
        exact ⟨ret_i HY.out.symm, _, rfl⟩
      · have t1 : ((l.length : Int) == 0) = false := by simpa using c1
        have c1' : l ≠ [] := fun e => c1 (by rw [e]; rfl)
        by_cases c2 : (l.length : Int) = n
        · have HY : Hid (chkS n l = 16) := Lib.hid (by rw [HX.out, if_pos (Or.inr c2)])
          have t2 : ((l.length : Int) == n) = true := by simpa using c2
          clear c1 c2 c1'
          go_wp2
          go_ret
          exact ⟨ret_i HY.out.symm, _, rfl⟩
        · have HY : Hid (chkS n l = 0) := Lib.hid (by rw [HX.out, if_neg (fun e => e.elim c1' c2)])
          have t2 : ((l.length : Int) == n) = false := by simpa using c2
          clear c1 c2 c1'
          go_wp2
          go_ret
          exact ⟨ret_i HY.out.symm, _, rfl⟩
theorem sideCheck_any (n : Int) (a : Option Addr) (c : Nat) (l : List Int) (hl : l.length ≤ 1000000000) (w : World) (hR : ReadsL encZ w.heap.size w a l) :
    Calls Try.prog 15 #[.int .i64 n, .slice a l.length c] w fun e w' => e = .returned (.int .i64 (chkS n l)) ∧ Below w.heap.size w w' :=
  (checkD_any n a c l hl w hR).mono fun _ _ ⟨he, m, hm⟩ => ⟨he, by rw [hm]; exact below_drewN (Below.refl _ _) m⟩
/-! ### is it among them? -/
theorem nanC_any (v : Int) (w : World) : Calls Try.prog 78 #[.int .i64 v] w fun e w' => e = .returned (.bool false) ∧ w = w' := by
  have t : (v != v) = false := by simp
  go_enter Try.func78, Try.ntmps78
  go_wp2
  go_ret
  exact ⟨rfl, rfl⟩
theorem nanS_any (v : Int) (w : World) : Calls Try.prog 66 #[.int .i64 v] w fun e w' => e = .returned (.bool false) ∧ w = w' := by
  have t : (v != v) = false := by simp
  go_enter Try.func66, Try.ntmps66
  go_wp2
  go_ret
  exact ⟨rfl, rfl⟩
theorem less_any (x y : Int) (w : World) : Calls Try.prog 65 #[.int .i64 x, .int .i64 y] w fun e w' => e = .returned (.bool (decide (x < y))) ∧ w = w' := by
  go_enter Try.func65, Try.ntmps65
  go_wp2_with fail
  refine (nanC_any x w).mono ?_
  rintro e w' ⟨rfl, rfl⟩
  go_wp2
  go_ret
  exact ⟨rfl, rfl⟩
theorem low_of {l : List Int} (hs : l.Pairwise (· < ·)) {i j : Nat} (hi : i < l.length) (hj : j < l.length) (h : i ≤ j) : l[i] ≤ l[j] := by
  rcases Nat.eq_or_lt_of_le h with h | h
  · subst h; exact Int.le_refl _
  · exact Int.le_of_lt (List.pairwise_iff_getElem.1 hs i j hi hj h)
/-- What is known while x is sought. -/
def SkSt (l : List Int) (x : Int) (lo hi : Nat) : Prop := (∀ t (h : t < l.length), t < lo → l[t] < x) ∧ ∀ t (h : t < l.length), hi ≤ t → x ≤ l[t]
theorem sk_in {l : List Int} (hs : l.Pairwise (· < ·)) {x : Int} {k : Nat} (h : SkSt l x k k) : inS l x = true ↔ ∃ hk : k < l.length, l[k] = x := by
  rw [inS_iff]
  constructor
  · intro hm
    obtain ⟨t, ht, e⟩ := List.getElem_of_mem hm
    have h1 : k ≤ t := by
      rcases Nat.lt_or_ge t k with h1 | h1
      · have := h.1 t ht h1; omega
      · exact h1
    rcases Nat.eq_or_lt_of_le h1 with h2 | h2
    · subst h2; exact ⟨ht, e⟩
    · have h3 := h.2 k (by omega) (Nat.le_refl _)
      have h4 := List.pairwise_iff_getElem.1 hs k t (by omega) ht h2
      omega
  · rintro ⟨hk, e⟩
    rw [← e]; exact List.getElem_mem hk
set_option maxRecDepth 100000 in
set_option maxHeartbeats 1000000 in
theorem bs_any (a : Option Addr) (c : Nat) (l : List Int) (hl : l.length ≤ 1000000000) (hs : l.Pairwise (· < ·)) (x : Int) (w : World) (hR : ReadsL encZ w.heap.size w a l) :
    Calls Try.prog 50 #[.slice a l.length c, .int .i64 x] w fun e w' => (∃ i : Nat, e = .returned (.tuple #[.int .i64 (i : Int), .bool (inS l x)])) ∧ ∃ m, w' = w.drewN m := by
  have HR := Lib.hid hR
  have HM := Lib.hid hs
  have HS : Hid (SkSt l x 0 l.length) := Lib.hid ⟨fun t _ h => by omega, fun t h h2 => by omega⟩
  clear hR hs
  go_enter Try.func50, Try.ntmps50
  go_wp2
  go_loopw [7, 8] (fun s9 s10 wr => ∃ lo hi m : Nat, s9 = .int .i64 lo ∧ s10 = .int .i64 hi ∧ lo ≤ hi ∧ hi ≤ l.length ∧ Hid (SkSt l x lo hi) ∧ wr = w.drewN m) (fun s9 s10 _ => (intOf s10).toNat - (intOf s9).toNat)
  case atStart => exact ⟨0, l.length, 0, rfl, rfl, Nat.zero_le _, Nat.le_refl _, HS, rfl⟩
  case round =>
    obtain ⟨lo, hi, m, rfl, rfl, hlh, hin, HK, rfl⟩ := hrel
    clear HS
    by_cases hlt : lo < hi
    · have hy : (lo + hi) / 2 < l.length := by omega
      obtain ⟨b, off, rfl, hbN, c0⟩ := HR.out.at hy
      have HLo : Hid (∀ t (h : t < l.length), t ≤ (lo + hi) / 2 → l[t] ≤ l[(lo + hi) / 2]) := Lib.hid (fun t h h2 => low_of HM.out h hy h2)
      have HHi : Hid (∀ t (h : t < l.length), (lo + hi) / 2 ≤ t → l[(lo + hi) / 2] ≤ l[t]) := Lib.hid (fun t h h2 => low_of HM.out hy h h2)
      generalize hk : (lo + hi) / 2 = k at *
      have hkk : ((lo : Int) + (hi : Int)) / 2 = (k : Int) := by omega
      have i0 : (0 : Int) ≤ (k : Int) := by omega
      have i1 : (k : Int) < (l.length : Int) := by omega
      have HKK : Hid (lo ≤ k ∧ k < hi) := Lib.hid (by omega)
      generalize l[k] = z at *
      unfold encZ at c0
      clear hk hy
      by_cases hz : z < x
      · have t : decide (z < x) = true := by simpa using hz
        have HX : Hid (SkSt l x (k + 1) hi) := Lib.hid ⟨fun t ht h2 => Int.lt_of_le_of_lt (HLo.out t ht (by omega)) hz, HK.out.2⟩
        clear hz
        go_wp2_with fail
        refine (less_any z x _).mono ?_
        rintro e w' ⟨rfl, rfl⟩
        go_wp2
        go_roundw
        case rel => exact ⟨k + 1, hi, _, by go_num, rfl, by have := HKK.out; omega, hin, HX, rfl⟩
        case measure => have := HKK.out; simp [intOf]; omega
      · have t : decide (z < x) = false := by simpa using hz
        have HX : Hid (SkSt l x lo k) := Lib.hid ⟨HK.out.1, fun t ht h2 => Int.le_trans (Int.not_lt.1 hz) (HHi.out t ht h2)⟩
        clear hz
        go_wp2_with fail
        refine (less_any z x _).mono ?_
        rintro e w' ⟨rfl, rfl⟩
        go_wp2
        go_roundw
        case rel => exact ⟨lo, k, _, rfl, rfl, by have := HKK.out; omega, by have := HKK.out; omega, HX, rfl⟩
        case measure => have := HKK.out; simp [intOf]; omega
    · obtain rfl : lo = hi := by omega
      have HI := Lib.hid (sk_in HM.out HK.out)
      by_cases hn : lo < l.length
      · have i1 : (lo : Int) < (l.length : Int) := by omega
        have i0 : (0 : Int) ≤ (lo : Int) := by omega
        obtain ⟨b, off, rfl, hbN, c0⟩ := HR.out.at hn
        have HIE : Hid (inS l x = true ↔ l[lo] = x) := Lib.hid (HI.out.trans ⟨fun ⟨_, e⟩ => e, fun e => ⟨hn, e⟩⟩)
        generalize l[lo] = z at *
        unfold encZ at c0
        by_cases hz : z = x
        · have HX : Hid (inS l x = true) := Lib.hid (HIE.out.2 hz)
          have t : (z == x) = true := by simpa using hz
          clear hz
          go_wp2
          refine bodyPost_ret (v := .tuple #[.int .i64 (lo : Int), .bool true]) (by simp [results, Try.results50, go_sem]) rfl ?_
          exact ⟨⟨lo, by rw [HX.out]⟩, _, rfl⟩
        · have HX : Hid (inS l x = false) := Lib.hid (Bool.eq_false_iff.2 (fun e => hz (HIE.out.1 e)))
          have t : (z == x) = false := by simpa using hz
          clear hz
          go_wp2_with fail
          refine (nanS_any z _).mono ?_
          rintro e w' ⟨rfl, rfl⟩
          go_wp2
          refine bodyPost_ret (v := .tuple #[.int .i64 (lo : Int), .bool false]) (by simp [results, Try.results50, go_sem]) rfl ?_
          exact ⟨⟨lo, by rw [HX.out]⟩, _, rfl⟩
      · have HX : Hid (inS l x = false) := Lib.hid (Bool.eq_false_iff.2 (fun e => by obtain ⟨h1, -⟩ := HI.out.1 e; exact hn h1))
        go_wp2
        refine bodyPost_ret (v := .tuple #[.int .i64 (lo : Int), .bool false]) (by simp [results, Try.results50, go_sem]) rfl ?_
        exact ⟨⟨lo, by rw [HX.out]⟩, _, rfl⟩
theorem sideHas_any (a : Option Addr) (c : Nat) (l : List Int) (hl : l.length ≤ 1000000000) (hs : l.Pairwise (· < ·)) (x : Int) (w : World) (hR : ReadsL encZ w.heap.size w a l) :
    Calls Try.prog 35 #[.slice a l.length c, .int .i64 x] w fun e w' => e = .returned (.bool (inS l x)) ∧ ∃ m, w' = w.drewN m := by
  have HB := Lib.hid (bs_any a c l hl hs x w hR)
  clear hR hs
  generalize inS l x = bb at *
  go_enter Try.func35, Try.ntmps35
  go_wp2_with fail
  refine HB.out.mono ?_
  rintro e w' ⟨⟨i, rfl⟩, m, rfl⟩
  go_wp2
  go_ret
  exact ⟨rfl, _, rfl⟩
end Go.Proofs.Ytbankocbncpepaa.Sd
