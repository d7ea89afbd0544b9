/- Texts that the laws of this seat stand on, part 10. -/
import Derived.Test.YtceejjgmepaonaaDoorPk9
import Derived.Test.YtceejjgmepaonaaDoorPk0
import Derived.Laws.BitsAllLaws
import Derived.Shelf.Spec.TrailingZeros
import Derived.Test.YtceejjgmepaonaaDoorProg
import Derived.Test.YtceejjgmepaonaaDoorPk1
import Derived.Deep.QuietTactic
import Derived.BigQuiet
/- Groups of vertices as the bits of a word, plainly: their vertices, all others, the walk from one side to the next, and what a side weighs more behind a step. No program in sight. -/
namespace Go.Proofs.YtceejjgmepaonaaDoor.BgPure
open Go Go.RowKit EdPure NtPure CutPure SdPure BrPure BrGray VsetPure
/-- The vertices of a group, rising. -/
def grpN (g : Nat) : List Nat := listP g.testBit 32
def grpL (g : Nat) : List Int := (grpN g).map fun v : Nat => (v : Int)
theorem grpN_len (g : Nat) : (grpN g).length ≤ 32 := listP_len _ _
theorem grpL_len (g : Nat) : (grpL g).length ≤ 32 := by unfold grpL; rw [List.length_map]; exact grpN_len g
theorem bitS_map (m : Nat) : ∀ k, bitS m k = (listP m.testBit k).map fun j : Nat => ((j + 1 : Nat) : Int)
  | 0 => rfl
  | k + 1 => by
    rw [listP_succ, List.map_append]
    unfold bitS
    rw [bitS_map m k]
    cases m.testBit k <;> rfl
theorem dbl_bit (m j : Nat) : (2 * m).testBit (j + 1) = m.testBit j := by
  rw [Nat.testBit_succ]
  congr 1
  omega
/-- The side of a number is the group of twice the number. -/
theorem grp_bit {m k : Nat} (hk : k ≤ 31) (hm : m < 2 ^ k) : grpL (2 * m) = bitS m k := by
  unfold grpL grpN
  rw [bitS_map, show (32 : Nat) = 1 + 31 by rfl, listP_add]
  have h0 : listP (2 * m).testBit 1 = [] := listP_none fun v hv => by
    obtain rfl : v = 0 := by omega
    rw [Nat.testBit_zero]
    exact decide_eq_false (by omega)
  rw [h0, List.nil_append, List.map_map]
  have h1 : listP (fun j => (2 * m).testBit (1 + j)) 31 = listP m.testBit k := by
    rw [← listP_past (p := m.testBit) (n := k) (N := 31) hk (fun v hv => Nat.testBit_lt_two_pow (Nat.lt_of_lt_of_le hm (Nat.pow_le_pow_right (by decide) hv)))]
    refine listP_congr fun v _ => ?_
    rw [Nat.add_comm, dbl_bit]
  rw [h1]
  refine List.map_congr_left fun v _ => ?_
  show ((1 + v : Nat) : Int) = _
  rw [Nat.add_comm]
theorem grp_in {g : Nat} {v : Nat} (hv : v < 32) : inS (grpL g) (v : Int) = g.testBit v := by
  have key : inS (grpL g) (v : Int) = true ↔ g.testBit v = true := by
    rw [inS_iff]
    unfold grpL grpN
    rw [List.mem_map]
    constructor
    · rintro ⟨x, hx, e⟩
      obtain rfl : x = v := by omega
      exact (listP_mem.1 hx).2
    · intro h
      exact ⟨v, listP_mem.2 ⟨hv, h⟩, rfl⟩
  cases h : g.testBit v with
  | true => exact key.2 h
  | false =>
    cases h2 : inS (grpL g) (v : Int) with
    | false => rfl
    | true => rw [key.1 h2] at h; cases h
theorem grpL_rises (g : Nat) : (grpL g).Pairwise (· < ·) := by
  unfold grpL grpN listP
  rw [List.pairwise_map]
  refine (List.Pairwise.filter _ ?_)
  exact (List.pairwise_lt_range (n := 32)).imp fun h => by omega
/-- All others of N vertices. -/
def othG (N g : Nat) : Nat := 2 ^ N - 1 - g
theorem oth_bit {N g : Nat} (hg : g < 2 ^ N) (j : Nat) : (othG N g).testBit j = (decide (j < N) && !g.testBit j) := by
  unfold othG
  rw [show 2 ^ N - 1 - g = 2 ^ N - (g + 1) by omega]
  exact Nat.testBit_two_pow_sub_succ hg j
theorem oth_lt {N g : Nat} : othG N g < 2 ^ N := by have := Nat.two_pow_pos N; unfold othG; omega
theorem and_oth {N g : Nat} (hN : N ≤ 31) (hg : g < 2 ^ N) : (2 ^ N - 1) &&& (4294967295 - g) = othG N g := by
  have h31 : 2 ^ N ≤ 2 ^ 31 := Nat.pow_le_pow_right (by decide) hN
  apply Nat.eq_of_testBit_eq
  intro j
  rw [oth_bit hg, Nat.testBit_and, Nat.testBit_two_pow_sub_one, show 4294967295 - g = 2 ^ 32 - (g + 1) by omega, Nat.testBit_two_pow_sub_succ (by omega)]
  by_cases h : j < N
  · simp [h]; omega
  · simp [h]
/-- A group's vertices, one by one: without its lowest. -/
def lowG (y : Nat) : Nat := Lib.ctz 32 y
theorem low_spec {y : Nat} (h0 : y ≠ 0) (h : y < 4294967296) : ∃ m, y = 2 ^ lowG y * (2 * m + 1) ∧ lowG y < 32 := by
  obtain ⟨m, hm, hk⟩ := Lib.ctzFrom_spec 32 y (by omega) (by simpa using h)
  have e : lowG y = Lib.ctzFrom 32 y := by simp [lowG, Lib.ctz, h0]
  rw [e]
  exact ⟨m, hm, hk⟩
theorem grp_zero : grpN 0 = [] := listP_none (fun v _ => by simp)
theorem grp_step {y : Nat} (h0 : y ≠ 0) (h : y < 4294967296) : grpN y = lowG y :: grpN (y &&& (y - 1)) := by
  obtain ⟨m, hm, ht⟩ := low_spec h0 h
  refine listP_head (t := lowG y) ?_ ?_ ?_ 32 ht
  · have := (low_bits (lowG y) m (lowG y)).1
    rw [← hm] at this
    rw [this]
    simp
  · intro j hj
    have := (low_bits (lowG y) m j).1
    rw [← hm] at this
    rw [this]
    have : decide (lowG y ≤ j) = false := decide_eq_false (by omega)
    rw [this]; rfl
  · intro j
    obtain ⟨h1, h2⟩ := low_bits (lowG y) m j
    rw [← hm] at h1 h2
    rw [Nat.testBit_and, h1, h2]
    by_cases a : j < lowG y
    · simp [a]; omega
    · by_cases b : j = lowG y
      · simp [b]
      · have c : lowG y < j := by omega
        have d : lowG y ≤ j := by omega
        simp [a, b, c, d]
theorem low_less (y : Nat) (h0 : y ≠ 0) : y &&& (y - 1) < y := Nat.lt_of_le_of_lt Nat.and_le_right (by omega)
/-! ### The walk -/
/-- The group behind i steps. -/
def gaG (i : Nat) : Nat := 2 * gray i
theorem ga_zero : gaG 0 = 0 := rfl
theorem ga_lt {i k : Nat} (h : i < 2 ^ k) : gaG i < 2 ^ (k + 1) := by have := gray_lt h; unfold gaG; rw [Nat.pow_succ]; omega
theorem low_gray {i k : Nat} (hi : i + 1 < 2 ^ k) (hk : k ≤ 31) : lowG (i + 1) < k := by
  have h31 : 2 ^ k ≤ 2 ^ 31 := Nat.pow_le_pow_right (by decide) hk
  obtain ⟨m, hm, ht⟩ := low_spec (y := i + 1) (by omega) (by omega)
  apply Classical.byContradiction
  intro hc
  have h1 : 2 ^ k ≤ 2 ^ lowG (i + 1) := Nat.pow_le_pow_right (by decide) (by omega)
  have h2 : 2 ^ lowG (i + 1) * 1 ≤ 2 ^ lowG (i + 1) * (2 * m + 1) := Nat.mul_le_mul_left _ (by omega)
  omega
theorem ga_step {i k : Nat} (hi : i + 1 < 2 ^ k) (hk : k ≤ 31) : gaG (i + 1) = gaG i ^^^ 2 ^ (lowG (i + 1) + 1) := by
  have h31 : 2 ^ k ≤ 2 ^ 31 := Nat.pow_le_pow_right (by decide) hk
  obtain ⟨m, hm, ht⟩ := low_spec (y := i + 1) (by omega) (by omega)
  unfold gaG
  rw [gray_step hm]
  apply Nat.eq_of_testBit_eq
  intro j
  cases j with
  | zero =>
    rw [Nat.testBit_xor, Nat.testBit_zero, Nat.testBit_zero, Nat.testBit_zero]
    have e : 2 ^ (lowG (i + 1) + 1) % 2 = 0 := by rw [Nat.pow_succ]; omega
    rw [show 2 * (gray i ^^^ 2 ^ lowG (i + 1)) % 2 = 0 by omega, show 2 * gray i % 2 = 0 by omega, e]
    rfl
  | succ j =>
    rw [Nat.testBit_xor, dbl_bit, dbl_bit, Nat.testBit_xor, Nat.testBit_two_pow, Nat.testBit_two_pow]
    congr 1
    exact decide_eq_decide.2 (by omega)
/-- What the side behind i steps weighs. -/
def wG (M : List Ed) (i : Nat) : Int := cutW M (inS (grpL (gaG i)))
/-- What all of a row weighs, and what those in a group do. -/
def rowS (f : Int → Int) (l : List Int) : Int := (l.map f).sum
theorem rowS_grp (f : Int → Int) (g : Nat) : ∀ N, N ≤ 32 → ((listP g.testBit N).map fun v : Nat => f (v : Int)).sum = sumN (fun u => if inS (grpL g) u = true then f u else 0) N
  | 0, _ => rfl
  | N + 1, h => by
    rw [listP_succ, List.map_append, List.sum_append, rowS_grp f g N (by omega)]
    show _ = sumN _ N + (if inS (grpL g) (N : Int) = true then f N else 0)
    rw [grp_in (by omega)]
    cases g.testBit N <;> simp
theorem row_grp (f : Int → Int) {g N : Nat} (hN : N ≤ 32) (hg : g < 2 ^ N) : rowS f (grpL g) = sumN (fun u => if inS (grpL g) u = true then f u else 0) N := by
  rw [← rowS_grp f g N hN]
  unfold rowS grpL grpN
  rw [List.map_map, listP_past (p := g.testBit) (n := N) (N := 32) hN (fun v hv => Nat.testBit_lt_two_pow (Nat.lt_of_lt_of_le hg (Nat.pow_le_pow_right (by decide) hv)))]
  rfl
theorem sumN_sub2 (f h : Int → Int) : ∀ n, sumN (fun u => f u - 2 * h u) n = sumN f n - 2 * sumN h n
  | 0 => rfl
  | n + 1 => by have := sumN_sub2 f h n; unfold sumN; omega
/-- What a side weighs more once v changes over: what v weighs to all, less twice what it weighs to those on the other side. -/
theorem more_sum {n : Nat} {M : List Ed} (h : GoodN n M) (S : Int → Bool) {v : Int} :
    moreW M S v = sumN (fun u => weiE M v u) n - 2 * sumN (fun u => if S u = S v then 0 else weiE M v u) n := by
  rw [← sumN_sub2]
  obtain ⟨h1, h2, -⟩ := h
  have e1 : sumN (fun u => weiE M v u - 2 * (if S u = S v then 0 else weiE M v u)) n = sumN (fun u => betS M v u - 2 * (if S u = S v then 0 else betS M v u)) n := sumN_congr fun k _ => by rw [wei_sum h1]
  rw [e1]
  have h3 := h1.2
  clear h1 e1
  induction M with
  | nil =>
    have e0 : sumN (fun u => betS [] v u - 2 * (if S u = S v then 0 else betS [] v u)) n = sumN (fun _ => 0) n := sumN_congr fun k _ => by
      rw [show betS [] v k = 0 from rfl]
      split <;> rfl
    rw [e0, sumN_zero]
    rfl
  | cons e r ih =>
    have hr := ih (fun y hy => h2 y (by simp [hy])) (fun y hy => h3 y (by simp [hy]))
    have he := h2 e (by simp)
    have hl := (h3 e (by simp)).1
    have e2 : sumN (fun u => betS (e :: r) v u - 2 * (if S u = S v then 0 else betS (e :: r) v u)) n = sumN (fun u => (betE v u e - 2 * (if S u = S v then 0 else betE v u e)) + (betS r v u - 2 * (if S u = S v then 0 else betS r v u))) n := sumN_congr fun k _ => by
      rw [bet_cons]; split <;> omega
    have e3 : moreW (e :: r) S v = moreE S v e + moreW r S v := by unfold moreW; simp
    rw [e2, sumN_add, ← hr, e3]
    congr 1
    have e4 : sumN (fun u => betE v u e - 2 * (if S u = S v then 0 else betE v u e)) n = sumN (fun u => if u = othE v e then moreE S v e else 0) n := by
      refine sumN_congr fun k _ => ?_
      unfold betE btwB othE moreE crossB
      simp only [decide_eq_true_eq]
      by_cases a : e.1 = v
      · rw [if_pos a, if_pos (Or.inl a)]
        by_cases b : (k : Int) = e.2.1
        · rw [if_pos (by omega), if_pos b, b, a]
          cases S e.2.1 <;> cases S v <;> simp <;> omega
        · rw [if_neg (by omega), if_neg b]
          split <;> omega
      · rw [if_neg a]
        by_cases c : e.2.1 = v
        · rw [if_pos (Or.inr c)]
          by_cases b : (k : Int) = e.1
          · rw [if_pos (by omega), if_pos b, b, c]
            cases S e.1 <;> cases S v <;> simp <;> omega
          · rw [if_neg (by omega), if_neg b]
            split <;> omega
        · rw [if_neg (fun h : e.1 = v ∨ e.2.1 = v => h.elim a c)]
          have : (if (v = e.1 ∧ (k : Int) = e.2.1) ∨ (v = e.2.1 ∧ (k : Int) = e.1) then e.2.2 else (0 : Int)) = 0 := if_neg (by omega)
          split <;> split <;> omega
    rw [e4, sumN_one]
    by_cases a : e.1 = v ∨ e.2.1 = v
    · rw [if_pos]
      unfold othE
      split <;> omega
    · have : moreE S v e = 0 := if_neg a
      rw [this]; split <;> rfl
/-- The group whose edges are taken off: those on the other side of v. -/
def facG (N g v : Nat) : Nat := if g.testBit v = true then othG N g else g
theorem fac_lt {N g v : Nat} (hg : g < 2 ^ N) : facG N g v < 2 ^ N := by unfold facG; split; exact oth_lt; exact hg
theorem fac_in {N g v u : Nat} (hg : g < 2 ^ N) (hN : N ≤ 31) (hv : v < N) (hu : u < N) : inS (grpL (facG N g v)) (u : Int) = (inS (grpL g) (u : Int) != inS (grpL g) (v : Int)) := by
  rw [grp_in (by omega), grp_in (by omega), grp_in (by omega)]
  unfold facG
  cases hb : g.testBit v with
  | true =>
    rw [if_pos rfl, oth_bit hg, decide_eq_true hu]
    cases g.testBit u <;> rfl
  | false =>
    rw [if_neg (by decide)]
    cases g.testBit u <;> rfl
/-- What is told of a step: the row's sum, less twice what is taken off. -/
def moG (M : List Ed) (N g v : Nat) : Int := sumN (fun u => weiE M v u) N - 2 * rowS (fun u => weiE M v u) (grpL (facG N g v))
theorem mo_more {N : Nat} {M : List Ed} (h : GoodN N M) {g v : Nat} (hN : N ≤ 31) (hg : g < 2 ^ N) (hv : v < N) : moG M N g v = moreW M (inS (grpL g)) (v : Int) := by
  rw [more_sum h]
  unfold moG
  rw [row_grp _ (by omega) (fac_lt hg)]
  have : sumN (fun u => if inS (grpL (facG N g v)) u = true then weiE M v u else 0) N = sumN (fun u => if inS (grpL g) u = inS (grpL g) (v : Int) then 0 else weiE M v u) N := sumN_congr fun k hk => by
    rw [fac_in hg hN hv hk]
    cases inS (grpL g) (k : Int) <;> cases inS (grpL g) (v : Int) <;> simp
  rw [this]
theorem wG_step {N : Nat} {M : List Ed} (h : GoodN N M) {i : Nat} (hN : N ≤ 31) (hi : i + 1 < 2 ^ (N - 1)) : wG M (i + 1) = wG M i + moG M N (gaG i) (lowG (i + 1) + 1) := by
  have ht := low_gray hi (by omega)
  have hg : gaG i < 2 ^ N := by have := ga_lt (i := i) (k := N - 1) (by omega); rwa [show N - 1 + 1 = N by omega] at this
  rw [mo_more h hN hg (by omega)]
  unfold wG
  have hl := gray_lt (i := i) (k := N - 1) (by omega)
  have hl2 := gray_lt (i := i + 1) (k := N - 1) hi
  have e2 : gray (i + 1) = gray i ^^^ 2 ^ lowG (i + 1) := by
    have h31 : 2 ^ (N - 1) ≤ 2 ^ 31 := Nat.pow_le_pow_right (by decide) (by omega)
    obtain ⟨m, hm, -⟩ := low_spec (y := i + 1) (by omega) (by omega)
    exact gray_step hm
  have e1 : inS (grpL (gaG (i + 1))) = flipV (inS (grpL (gaG i))) ((lowG (i + 1) + 1 : Nat) : Int) := by
    unfold gaG
    rw [grp_bit (by omega) hl2, grp_bit (by omega) hl, e2]
    funext u
    exact bit_flip ht u
  rw [e1, cut_flip M (fun e he => by have := (h.1.2 e he).1; omega)]
theorem wG_zero (M : List Ed) : wG M 0 = 0 := by
  unfold wG
  rw [ga_zero]
  have e : inS (grpL 0) = fun _ => false := by
    funext u
    unfold grpL
    rw [grp_zero]
    rfl
  rw [e]
  unfold cutW
  induction M with
  | nil => rfl
  | cons e r ih => simp only [List.map_cons, List.sum_cons, ih]; unfold crE crossB; simp
end Go.Proofs.YtceejjgmepaonaaDoor.BgPure
/- The library's contract of bits.TrailingZeros32, laid at this program. -/
namespace Go.Proofs
open Go.Shelf
def Tryd.lays28_ren : Go.Shelf.Ren := ⟨fun | 28 => 59 | n => n, fun | 27 => 73 | 3 => 3 | 4 => 4 | 25 => 113 | 53 => 141 | 0 => 0 | 5 => 5 | n => n, fun | 0 => 0 | n => n⟩
theorem Tryd.lays28 : Go.Proofs.Lays7.n28 Tryd.prog Tryd.lays28_ren := {
  mixed := by kernel_rfl
  f28 := Tryd.func59.trans (congrArg some (by kernel_rfl))
  t0 := Tryd.underlying0
  a0 := Tryd.isAgg0
  z0 := Tryd.sizeOf0
  v0 := Tryd.zeroValue0
  i0 := by kernel_rfl
  t3 := Tryd.underlying3
  a3 := Tryd.isAgg3
  z3 := Tryd.sizeOf3
  v3 := Tryd.zeroValue3
  i3 := by kernel_rfl
  t4 := Tryd.underlying4
  a4 := Tryd.isAgg4
  z4 := Tryd.sizeOf4
  v4 := Tryd.zeroValue4
  i4 := by kernel_rfl
  t5 := Tryd.underlying5
  a5 := Tryd.isAgg5
  z5 := Tryd.sizeOf5
  v5 := Tryd.zeroValue5
  i5 := by kernel_rfl
  t25 := Tryd.underlying113
  a25 := Tryd.isAgg113
  z25 := Tryd.sizeOf113
  v25 := Tryd.zeroValue113
  i25 := by kernel_rfl
  t27 := Tryd.underlying73
  a27 := Tryd.isAgg73
  z27 := Tryd.sizeOf73
  v27 := Tryd.zeroValue73
  i27 := by kernel_rfl
  t53 := Tryd.underlying141
  a53 := Tryd.isAgg141
  z53 := Tryd.sizeOf141
  v53 := Tryd.zeroValue141
  i53 := by kernel_rfl
  g0 := by kernel_rfl }
theorem Tryd.bits_Tz32 (x : Nat) (hx : x < 4294967296) (w : World) (hT : x ≠ 0 → TabAt 0 Lib.deBruijn32tab w) :
    Calls Tryd.prog 59 #[.int .u32 x] w fun e w' => e = .returned (.int .i64 (Lib.ctz 32 x)) ∧ w' = w := Any7.bits_TrailingZeros32 Tryd.lays28 x hx w hT
end Go.Proofs
/- Ints (of the document's answers of layer 9) tells of any two lists whether they are the same. -/
namespace Go.Proofs.YtceejjgmepaonaaDoor
open Go.RowKit Go.ChangeShapes
def encZ (z : Int) : Value := .int .i64 z
/-- Ints of any two lists. -/
def EqRel (l r : List Int) (w0 : World) (k : Nat) (w : World) : Prop := k ≤ l.length ∧ (∃ m, w = w0.drewN m) ∧ l.take k = r.take k
theorem ints_any (a a' : Option Addr) (c1 c2 : Nat) (l r : List Int) (w : World) (h1 : ReadsL encZ w.heap.size w a l) (h2 : ReadsL encZ w.heap.size w a' r) (hl1 : l.length ≤ 1000000000) :
    Calls Tryd.prog 18 #[.slice a l.length c1, .slice a' r.length c2] w fun e w' => e = .returned (.bool (decide (l = r))) ∧ ∃ m, w' = w.drewN m := by
  have H1 := Lib.hid h1
  have H2 := Lib.hid h2
  clear h1 h2
  by_cases hn : l.length = r.length
  · have t : ((l.length : Int) != (r.length : Int)) = false := by simp [hn]
    have HN := Lib.hid hn
    go_enter Tryd.func18, Tryd.ntmps18
    clear hn
    go_wp2
    go_loopw [5] (fun i wr => ∃ k : Nat, i = .int .i64 k ∧ Hid (EqRel l r w k wr)) (fun i _ => l.length - (intOf i).toNat)
    case atStart => exact ⟨0, rfl, Lib.hid ⟨Nat.zero_le _, ⟨0, rfl⟩, rfl⟩⟩
    case round =>
      obtain ⟨k, rfl, HK⟩ := hrel
      have hk := HK.out.1
      obtain ⟨m, rfl⟩ := HK.out.2.1
      have i0 : (0 : Int) ≤ (k : Int) := by omega
      by_cases hlt : k < l.length
      · have hlt2 : k < r.length := by have := HN.out; omega
        have i1 : (k : Int) < (l.length : Int) := by omega
        have i2 : (k : Int) < (r.length : Int) := by omega
        obtain ⟨b, off, rfl, hbN, d1⟩ := H1.out.at hlt
        obtain ⟨b', off', rfl, hbN', d2⟩ := H2.out.at hlt2
        unfold encZ at d1 d2
        by_cases he : l[k] = r[k]
        · have hN : Hid (l.take (k + 1) = r.take (k + 1)) := Lib.hid (by rw [take_snoc l k hlt, take_snoc r k hlt2, HK.out.2.2, he])
          rw [he] at d1
          clear he
          generalize r[k] = x at *
          go_wp2
          go_quiet (fail)
          go_wp2
          go_roundw
          case rel => exact ⟨k + 1, by go_num, Lib.hid ⟨by omega, ⟨_, rfl⟩, hN.out⟩⟩
          case measure => (simp [intOf] <;> omega)
        · have hN : Hid (decide (l = r) = false) := Lib.hid (by refine decide_eq_false (fun h => he ?_); subst h; rfl)
          have t2 : (l[k] != r[k]) = true := by simpa using he
          clear he
          generalize l[k] = x at *
          generalize r[k] = y at *
          go_wp2
          go_quiet (fail)
          go_wp2
          go_ret
          exact ⟨bool_ret hN.out.symm, _, World.drewN_drewN _ _ _⟩
      · have hke : k = l.length := by omega
        have hfin : l = r := by
          have := HK.out.2.2
          rw [hke, List.take_length, HN.out, List.take_length] at this
          exact this
        have HF := Lib.hid hfin
        clear hfin
        go_wp2
        go_ret
        exact ⟨bool_ret (by rw [decide_eq_true HF.out]), _, rfl⟩
  · have t : ((l.length : Int) != (r.length : Int)) = true := by
      have : (l.length : Int) ≠ (r.length : Int) := fun e => hn (by omega)
      simpa using this
    have HN : Hid (decide (l = r) = false) := Lib.hid (decide_eq_false (fun e => hn (by rw [e])))
    clear hn
    go_enter Tryd.func18, Tryd.ntmps18
    go_wp2
    go_ret
    exact ⟨bool_ret HN.out.symm, 0, rfl⟩
end Go.Proofs.YtceejjgmepaonaaDoor
