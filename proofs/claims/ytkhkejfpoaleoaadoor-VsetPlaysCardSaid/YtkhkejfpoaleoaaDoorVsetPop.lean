/- The library's way to count a word's bits, in plain numbers: it comes to their number. No function of the program is named. -/
import Derived.Test.YtkhkejfpoaleoaaDoorVsetPure
namespace Go.Proofs.YtkhkejfpoaleoaaDoor.VsetPure
open Go
/-! ### how many bits there are -/
def mk (c : Nat) : Nat → Nat
  | 0 => 0
  | k + 1 => 256 * mk c k + c
theorem mk_succ (c k : Nat) : mk c (k + 1) = 256 * mk c k + c := rfl
theorem and_step (a b c d : Nat) (hb : b < 256) (hd : d < 256) : (256 * a + b) &&& (256 * c + d) = 256 * (a &&& c) + (b &&& d) := by
  have hbd : b &&& d < 2 ^ 8 := Nat.and_lt_two_pow _ hd
  apply Nat.eq_of_testBit_eq
  intro j
  rw [Nat.testBit_and]
  rw [show (256 : Nat) = 2 ^ 8 from rfl, Nat.testBit_two_pow_mul_add _ hb, Nat.testBit_two_pow_mul_add _ hd, Nat.testBit_two_pow_mul_add _ hbd]
  split
  · rw [Nat.testBit_and]
  · rw [Nat.testBit_and]
def g1 (b : Nat) : Nat := (b / 2 &&& 85) + (b &&& 85)
def h1 (b : Nat) : Nat := (b / 4 &&& 51) + (b &&& 51)
def t1 (b : Nat) : Nat := (b / 16 + b) % 16
theorem byte_g : ∀ b : Fin 256, ∀ e : Fin 2, (128 * e.val + b.val / 2) &&& 85 = b.val / 2 &&& 85 := by decide +kernel
theorem byte_h : ∀ b : Fin 256, ∀ e : Fin 4, (64 * e.val + b.val / 4) &&& 51 = b.val / 4 &&& 51 := by decide +kernel
theorem byte_all : ∀ b : Fin 256, g1 b.val < 256 ∧ h1 (g1 b.val) < 256 ∧ h1 (g1 b.val) % 16 ≤ 4 ∧ h1 (g1 b.val) / 16 ≤ 4 ∧ t1 (h1 (g1 b.val)) = (listP b.val.testBit 8).length ∧ t1 (h1 (g1 b.val)) ≤ 8 := by decide +kernel
def gs (k x : Nat) : Nat := (x / 2 &&& mk 85 k) + (x &&& mk 85 k)
def hs (k x : Nat) : Nat := (x / 4 &&& mk 51 k) + (x &&& mk 51 k)
def ts (k x : Nat) : Nat := (x / 16 + x) &&& mk 15 k
theorem gs_step (k q b : Nat) (hb : b < 256) : gs (k + 1) (256 * q + b) = 256 * gs k q + g1 b := by
  unfold gs g1
  rw [mk_succ]
  have e : (256 * q + b) / 2 = 256 * (q / 2) + (128 * (q % 2) + b / 2) := by omega
  rw [e, and_step _ _ _ _ (by omega) (by decide), and_step _ _ _ _ hb (by decide), byte_g ⟨b, hb⟩ ⟨q % 2, by omega⟩]
  simp only
  omega
theorem hs_step (k q b : Nat) (hb : b < 256) : hs (k + 1) (256 * q + b) = 256 * hs k q + h1 b := by
  unfold hs h1
  rw [mk_succ]
  have e : (256 * q + b) / 4 = 256 * (q / 4) + (64 * (q % 4) + b / 4) := by omega
  rw [e, and_step _ _ _ _ (by omega) (by decide), and_step _ _ _ _ hb (by decide), byte_h ⟨b, hb⟩ ⟨q % 4, by omega⟩]
  simp only
  omega
theorem ts_step (k q b : Nat) (hq : q % 16 ≤ 4) (hb : b / 16 ≤ 4) (hb2 : b % 16 ≤ 4) : ts (k + 1) (256 * q + b) = 256 * ts k q + t1 b := by
  unfold ts t1
  rw [mk_succ]
  have e : (256 * q + b) / 16 + (256 * q + b) = 256 * (q / 16 + q) + (16 * (q % 16) + b / 16 + b) := by omega
  rw [e, and_step _ _ _ _ (by omega) (by decide), show (15 : Nat) = 2 ^ 4 - 1 from rfl, Nat.and_two_pow_sub_one_eq_mod]
  omega
/-- The number that the library's shifts and masks come to, over k bytes. -/
def pops (k x : Nat) : Nat := ts k (hs k (gs k x))
theorem low_hs (k x : Nat) : hs k (gs k x) % 16 ≤ 4 := by
  cases k with
  | zero => simp [hs, mk]
  | succ k =>
    have hb : x % 256 < 256 := Nat.mod_lt _ (by decide)
    obtain ⟨a1, a2, a3, -⟩ := byte_all ⟨x % 256, hb⟩
    simp only at a1 a2 a3
    rw [show x = 256 * (x / 256) + x % 256 by omega, gs_step _ _ _ hb, hs_step _ _ _ a1]
    omega
theorem pops_step (k x : Nat) : pops (k + 1) x = 256 * pops k (x / 256) + (listP (x % 256).testBit 8).length := by
  have hb : x % 256 < 256 := Nat.mod_lt _ (by decide)
  obtain ⟨a1, a2, a3, a4, a5, -⟩ := byte_all ⟨x % 256, hb⟩
  simp only at a1 a2 a3 a4 a5
  unfold pops
  conv => lhs; rw [show x = 256 * (x / 256) + x % 256 by omega, gs_step _ _ _ hb, hs_step _ _ _ a1, ts_step _ _ _ (low_hs _ _) a4 a3]
  rw [a5]
theorem bytes_step (k x : Nat) : (listP x.testBit (8 * (k + 1))).length = (listP (x / 256).testBit (8 * k)).length + (listP (x % 256).testBit 8).length := by
  rw [show 8 * (k + 1) = 8 + 8 * k by omega, listP_add, List.length_append, List.length_map, Nat.add_comm]
  congr 1
  · congr 1
    apply listP_congr
    intro v _
    rw [show (256 : Nat) = 2 ^ 8 from rfl, Nat.testBit_div_two_pow, Nat.add_comm]
  · congr 1
    apply listP_congr
    intro v hv
    rw [show (256 : Nat) = 2 ^ 8 from rfl, Nat.testBit_mod_two_pow]
    simp [hv]
theorem byte_le (x : Nat) : (listP (x % 256).testBit 8).length ≤ 8 := listP_len _ _
/-- Put together by halves. -/
theorem pops_all (x : Nat) : ∃ p0 p1 p2 p3 p4 p5 p6 p7 : Nat, p0 ≤ 8 ∧ p1 ≤ 8 ∧ p2 ≤ 8 ∧ p3 ≤ 8 ∧ p4 ≤ 8 ∧ p5 ≤ 8 ∧ p6 ≤ 8 ∧ p7 ≤ 8 ∧
    pops 8 x = 256 * (256 * (256 * (256 * (256 * (256 * (256 * p7 + p6) + p5) + p4) + p3) + p2) + p1) + p0 ∧ cnt x = p0 + p1 + p2 + p3 + p4 + p5 + p6 + p7 := by
  refine ⟨_, _, _, _, _, _, _, _, byte_le x, byte_le (x / 256), byte_le (x / 256 / 256), byte_le (x / 256 / 256 / 256), byte_le (x / 256 / 256 / 256 / 256), byte_le (x / 256 / 256 / 256 / 256 / 256), byte_le (x / 256 / 256 / 256 / 256 / 256 / 256), byte_le (x / 256 / 256 / 256 / 256 / 256 / 256 / 256), ?_, ?_⟩
  · have z : ∀ y, pops 0 y = 0 := fun y => by simp [pops, ts, mk]
    iterate 8 rw [pops_step]
    rw [z]
    omega
  · have z : ∀ y : Nat, (listP y.testBit (8 * 0)).length = 0 := fun y => rfl
    show (listP x.testBit (8 * (7 + 1))).length = _
    rw [bytes_step 7, bytes_step 6, bytes_step 5, bytes_step 4, bytes_step 3, bytes_step 2, bytes_step 1, bytes_step 0, z]
    omega
theorem last1 (y1 y2 y3 p0 p1 p2 : Nat) (e1 : y1 = 256 * y2 + p1) (e2 : y2 = 256 * y3 + p2) : (256 * y1 + p0) + y1 = 65536 * (y2 + y3) + (256 * (p1 + p2) + (p0 + p1)) := by omega
theorem last2 (q r : Nat) (h : r < 65536) : (65536 * q + r) / 65536 = q := by omega
theorem last3 (z q r u a b c : Nat) (ez : z = 65536 * q + a) (eq : q = 65536 * r + b) (er : r = 65536 * u + c) (ha : a ≤ 8000) (hb : b ≤ 8000) (hc : c ≤ 8000) : (z + q) / 4294967296 = r + u := by
  have : z + q = 4294967296 * (r + u) + (65536 * (b + c) + (a + b)) := by omega
  rw [this]
  clear this ez eq er
  omega
theorem last4 (z q r u a b c : Nat) (ez : z = 65536 * q + a) (eq : q = 65536 * r + b) (er : r = 65536 * u + c) : (z + q + (r + u)) % 128 = (a + b + c + u) % 128 := by omega
theorem pops_last (y p0 p1 p2 p3 p4 p5 p6 p7 : Nat) (h0 : p0 ≤ 8) (h1 : p1 ≤ 8) (h2 : p2 ≤ 8) (h3 : p3 ≤ 8) (h4 : p4 ≤ 8) (h5 : p5 ≤ 8) (h6 : p6 ≤ 8) (h7 : p7 ≤ 8)
    (hy : y = 256 * (256 * (256 * (256 * (256 * (256 * (256 * p7 + p6) + p5) + p4) + p3) + p2) + p1) + p0) :
    ((y + y / 256 + (y + y / 256) / 65536) + (y + y / 256 + (y + y / 256) / 65536) / 4294967296) % 128 = p0 + p1 + p2 + p3 + p4 + p5 + p6 + p7 := by
  obtain ⟨y6, e6⟩ : ∃ y6, y6 = 256 * p7 + p6 := ⟨_, rfl⟩
  obtain ⟨y5, e5⟩ : ∃ y5, y5 = 256 * y6 + p5 := ⟨_, rfl⟩
  obtain ⟨y4, e4⟩ : ∃ y4, y4 = 256 * y5 + p4 := ⟨_, rfl⟩
  obtain ⟨y3, e3⟩ : ∃ y3, y3 = 256 * y4 + p3 := ⟨_, rfl⟩
  obtain ⟨y2, e2⟩ : ∃ y2, y2 = 256 * y3 + p2 := ⟨_, rfl⟩
  obtain ⟨y1, e1⟩ : ∃ y1, y1 = 256 * y2 + p1 := ⟨_, rfl⟩
  rw [← e6, ← e5, ← e4, ← e3, ← e2, ← e1] at hy
  have d0 : y / 256 = y1 := by clear e1 e2 e3 e4 e5 e6; omega
  rw [d0]
  have a1 : y + y1 = 65536 * (y2 + y3) + (256 * (p1 + p2) + (p0 + p1)) := by rw [hy]; exact last1 _ _ _ _ _ _ e1 e2
  have a2 : y2 + y3 = 65536 * (y4 + y5) + (256 * (p3 + p4) + (p2 + p3)) := by rw [e2]; exact last1 _ _ _ _ _ _ e3 e4
  have a3 : y4 + y5 = 65536 * (y6 + p7) + (256 * (p5 + p6) + (p4 + p5)) := by rw [e4]; exact last1 _ _ _ _ _ _ e5 e6
  have b1 : 256 * (p1 + p2) + (p0 + p1) ≤ 8000 := by clear hy d0 a1 a2 a3 e1 e2 e3 e4 e5 e6; omega
  have b2 : 256 * (p3 + p4) + (p2 + p3) ≤ 8000 := by clear hy d0 a1 a2 a3 e1 e2 e3 e4 e5 e6; omega
  have b3 : 256 * (p5 + p6) + (p4 + p5) ≤ 8000 := by clear hy d0 a1 a2 a3 e1 e2 e3 e4 e5 e6; omega
  have d1 : (y + y1) / 65536 = y2 + y3 := by rw [a1]; exact last2 _ _ (Nat.lt_of_le_of_lt b1 (by decide))
  rw [d1, last3 _ _ _ _ _ _ _ a1 a2 a3 b1 b2 b3, last4 _ _ _ _ _ _ _ a1 a2 a3]
  clear d0 d1 a1 a2 a3 hy e1 e2 e3 e4 e5 b1 b2 b3
  omega
theorem pops_lt (x : Nat) : pops 8 x < 1152921504606846976 := by
  obtain ⟨p0, p1, p2, p3, p4, p5, p6, p7, h0, h1, h2, h3, h4, h5, h6, h7, e, -⟩ := pops_all x
  rw [e]
  omega
theorem pops_cnt (x y : Nat) (hy : y = pops 8 x) : ((y + y / 256 + (y + y / 256) / 65536) + (y + y / 256 + (y + y / 256) / 65536) / 4294967296) % 128 = cnt x := by
  obtain ⟨p0, p1, p2, p3, p4, p5, p6, p7, h0, h1, h2, h3, h4, h5, h6, h7, e, c⟩ := pops_all x
  rw [c]
  exact pops_last y p0 p1 p2 p3 p4 p5 p6 p7 h0 h1 h2 h3 h4 h5 h6 h7 (hy.trans e)
end Go.Proofs.YtkhkejfpoaleoaaDoor.VsetPure
