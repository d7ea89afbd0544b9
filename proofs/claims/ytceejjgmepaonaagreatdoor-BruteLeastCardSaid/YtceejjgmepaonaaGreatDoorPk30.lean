/- Texts that the laws of this seat stand on, part 30. -/
import Derived.Test.YtceejjgmepaonaaGreatDoorPk29
import Derived.Deep.QuietTactic
import Derived.Test.YtceejjgmepaonaaGreatDoorPk18
import Derived.StillTailTactics
/- brute's Pair: the least weight between two, and what all sides of this weight share. -/
namespace Go.Proofs.YtceejjgmepaonaaGreatDoor.Bg
open Go.RowKit Go.ChangeShapes BgPure BgRes EdPure NtPure Br Sd
theorem flip_g {P : Program} {f : FuncId} {args : Array Value} {w : World} {v : Value} (h : Calls P f args w fun e w' => e = .returned v ∧ w = w') : Calls P f args w fun e w' => e = .returned v ∧ w' = w := h.mono fun _ _ ⟨h1, h2⟩ => ⟨h1, h2.symm⟩
/-- Both numbers, each in a cell of its own. -/
def TwoC (X Y : Nat) (s t : Int) (W : World) : Prop := W.cell? ⟨X, 0, none⟩ = some (.int .i64 s) ∧ W.cell? ⟨Y, 0, none⟩ = some (.int .i64 t)
theorem TwoC.lt {X Y : Nat} {s t : Int} {W : World} (h : TwoC X Y s t W) : X < W.heap.size ∧ Y < W.heap.size := ⟨World.block_lt_of_cell? W _ h.1, World.block_lt_of_cell? W _ h.2⟩
theorem TwoC.keep {X Y : Nat} {s t : Int} {W W' : World} (h : TwoC X Y s t W) (hb : Below W.heap.size W W') : TwoC X Y s t W' := ⟨(hb.cell (p := ⟨X, 0, none⟩) h.lt.1).trans h.1, (hb.cell (p := ⟨Y, 0, none⟩) h.lt.2).trans h.2⟩
set_option maxRecDepth 100000 in
set_option maxHeartbeats 1000000 in
theorem ask_any (X Y : Nat) (s t g : Nat) (hs : s < 32) (ht : t < 32) (hg : g < 4294967296) (w : World) (h : TwoC X Y (s : Int) (t : Int) w) :
    Calls Tryz.prog 34 #[.int .u32 (g : Int), .pointer (some ⟨X, 0, none⟩), .pointer (some ⟨Y, 0, none⟩)] w fun e w' => e = .returned (.bool (prA s t g)) ∧ Below w.heap.size w w' := by
  obtain ⟨c1, c2⟩ := h
  have HG := Lib.hid (fun (v : Nat) (hv : v < 32) w => has_any g v hg hv w)
  have HP : Hid (prA s t g = (g.testBit s != g.testBit t)) := Lib.hid rfl
  generalize prA s t g = r at *
  go_enter Tryz.func34, Tryz.ntmps34
  go_wp2_with fail
  go_quiet ((go_at_call 35; exact Calls.quiet_of_same (flip_g (HG.out _ (by assumption) _))))
  go_wp2
  go_ret
  exact ⟨bool_ret HP.out.symm, below_drewN (Below.refl _ _) _⟩
/-- Is it a vertex? -/
def isB (n v : Int) : Bool := decide (0 ≤ v) && decide (v < n)
theorem isB_yes {n v : Int} (h : 0 ≤ v ∧ v < n) : isB n v = true := by unfold isB; rw [decide_eq_true h.1, decide_eq_true h.2]; rfl
theorem isB_no {n v : Int} (h : ¬ (0 ≤ v ∧ v < n)) : isB n v = false := by
  unfold isB
  cases h1 : decide (0 ≤ v) with
  | false => rfl
  | true =>
    cases h2 : decide (v < n) with
    | false => rfl
    | true => exact absurd ⟨of_decide_eq_true h1, of_decide_eq_true h2⟩ h
/-- The variables of Pair: both numbers, the result. -/
def PaSt (w : World) (s t : Int) (W : World) : Prop := Below w.heap.size w W ∧ TwoC w.heap.size (w.heap.size + 1) s t W ∧ TwoAt (w.heap.size + 2) W (.int .i64 0) (.slice none 0 0)
theorem PaSt.keep {w : World} {s t : Int} {W W' : World} (h : PaSt w s t W) (hb : Below W.heap.size W W') : PaSt w s t W' := ⟨h.1.trans (hb.mono h.1.size), h.2.1.keep hb, h.2.2.on hb h.2.2.lt⟩
theorem pa_start (w : World) (s t : Int) (T T' T2 : TypeId) : PaSt w s t (((w.alloc (.cells #[.int .i64 s] T)).alloc (.cells #[.int .i64 t] T')).alloc (.cells #[.int .i64 0, .slice none 0 0] T2)) := by
  have b1 : Below w.heap.size w (w.alloc (.cells #[.int .i64 s] T)) := (Below.refl _ _).alloc (Nat.le_refl _) _
  have b2 := (Below.refl _ (w.alloc (.cells #[.int .i64 s] T))).alloc (Nat.le_refl _) (.cells #[.int .i64 t] T')
  have b3 := (Below.refl _ ((w.alloc (.cells #[.int .i64 s] T)).alloc (.cells #[.int .i64 t] T'))).alloc (Nat.le_refl _) (.cells #[.int .i64 0, .slice none 0 0] T2)
  have c1 := CellAt.new w (.int .i64 s) T
  have c2 := CellAt.new (w.alloc (.cells #[.int .i64 s] T)) (.int .i64 t) T'
  have c3 := TwoAt.new ((w.alloc (.cells #[.int .i64 s] T)).alloc (.cells #[.int .i64 t] T')) (.int .i64 0) (.slice none 0 0) T2
  rw [World.size_alloc] at c2 c3
  rw [World.size_alloc] at c3
  exact ⟨b1.trans ((b2.trans (b3.mono b2.size)).mono b1.size), ⟨((c1.keep b2).keep b3).1, (c2.keep b3).1⟩, c3⟩
set_option maxRecDepth 100000 in
set_option maxHeartbeats 8000000 in
theorem brPair_any (p : Option Addr) (N : Nat) (M : List Ed) (_hN : N ≤ 4096) (hG : GoodN N M) (hM : M.length ≤ 100000) (s t : Int) (w : World) (h : NetAt p N M w) (hT : Tab w) :
    Calls Tryz.prog 14 #[.pointer p, .int .i64 s, .int .i64 t] w fun e w' => SideC (prW N M s t) (prS N M s t) (prE N s t) w e w' := by
  have hst := pa_start w s t 3 3 30
  have HS0 := Lib.hid hst
  have HNet := Lib.hid (h.over hst.1)
  have HNum := Lib.hid (num_any p N M _ (h.over hst.1))
  have HTab := Lib.hid (tab_keep hT hst.1)
  have HV : Hid (∀ v W, Calls Tryz.prog 33 #[.int .i64 (N : Int), .int .i64 v] W fun e w' => e = .returned (.bool (isB (N : Int) v)) ∧ W = w') := Lib.hid (fun v W => isV_any (N : Int) v W)
  clear h hT hst
  by_cases k1 : 0 ≤ s ∧ s < (N : Int)
  case neg =>
    have hs : isB (N : Int) s = false := isB_no k1
    have he : prE N s t = 4 := by
      have hb : bothE (N : Int) s t = 4 := if_neg (by omega)
      unfold prE; rw [hb]; rfl
    have e1 : prW N M s t = 0 := by unfold prW; rw [he]; rfl
    have e2 : prS N M s t = [] := by unfold prS; rw [he]; rfl
    rw [he, e1, e2]
    clear he e1 e2
    clear k1 hG
    go_enter Tryz.func14, Tryz.ntmps14
    go_wp2_with fail
    generalize ((w.alloc (.cells #[.int .i64 s] 3)).alloc (.cells #[.int .i64 t] 3)).alloc (.cells #[.int .i64 0, .slice none 0 0] 30) = W0 at *
    refine (HNum.out).mono ?_
    rintro e w1 ⟨rfl, hb1⟩
    have HS1 := Lib.hid (HS0.out.keep hb1)
    have HNe1 := Lib.hid (HNet.out.over hb1)
    have HTa1 := Lib.hid (tab_keep HTab.out hb1)
    obtain ⟨cs, ct⟩ := HS1.out.2.1
    obtain ⟨ls, lt⟩ := HS1.out.2.1.lt
    obtain ⟨c0, c1, f0, f1⟩ := HS1.out.2.2
    have hlt := HS1.out.2.2.lt
    clear hb1 HNum HS0 HNet HTab
    have HD := Lib.hid (cut_done (x := 0) (c := 0) (q := none) (L := []) HS1.out.1 (ReadsL.nil _ _ _ _) (w.heap.size + 2) (by omega) HS1.out.2.2 (fun z hz => by cases hz))
    go_wp2_with (go_at_call 33; refine (HV.out _ _).mono ?_; rintro e w' ⟨rfl, rfl⟩)
    obtain ⟨d0, d1, -, -⟩ := HD.out.2.1
    simp only [List.length_nil] at d0 d1
    exact bodyPost_ret (v := .tuple #[.agg #[.int .i64 0, .slice none 0 0], .int .i64 4]) (by simp [results, Tryz.results14, go_sem, d0, d1]) rfl ⟨HD.out.1, none, 0, rfl, HD.out.2.2⟩

  have hs : isB (N : Int) s = true := isB_yes k1
  by_cases k2 : 0 ≤ t ∧ t < (N : Int)
  case neg =>
    have ht : isB (N : Int) t = false := isB_no k2
    have he : prE N s t = 4 := by
      have hb : bothE (N : Int) s t = 4 := if_neg (by omega)
      unfold prE; rw [hb]; rfl
    have e1 : prW N M s t = 0 := by unfold prW; rw [he]; rfl
    have e2 : prS N M s t = [] := by unfold prS; rw [he]; rfl
    rw [he, e1, e2]
    clear he e1 e2
    clear k1 k2 hG
    go_enter Tryz.func14, Tryz.ntmps14
    go_wp2_with fail
    generalize ((w.alloc (.cells #[.int .i64 s] 3)).alloc (.cells #[.int .i64 t] 3)).alloc (.cells #[.int .i64 0, .slice none 0 0] 30) = W0 at *
    refine (HNum.out).mono ?_
    rintro e w1 ⟨rfl, hb1⟩
    have HS1 := Lib.hid (HS0.out.keep hb1)
    have HNe1 := Lib.hid (HNet.out.over hb1)
    have HTa1 := Lib.hid (tab_keep HTab.out hb1)
    obtain ⟨cs, ct⟩ := HS1.out.2.1
    obtain ⟨ls, lt⟩ := HS1.out.2.1.lt
    obtain ⟨c0, c1, f0, f1⟩ := HS1.out.2.2
    have hlt := HS1.out.2.2.lt
    clear hb1 HNum HS0 HNet HTab
    have HD := Lib.hid (cut_done (x := 0) (c := 0) (q := none) (L := []) HS1.out.1 (ReadsL.nil _ _ _ _) (w.heap.size + 2) (by omega) HS1.out.2.2 (fun z hz => by cases hz))
    go_wp2_with (go_at_call 33; refine (HV.out _ _).mono ?_; rintro e w' ⟨rfl, rfl⟩)
    obtain ⟨d0, d1, -, -⟩ := HD.out.2.1
    simp only [List.length_nil] at d0 d1
    exact bodyPost_ret (v := .tuple #[.agg #[.int .i64 0, .slice none 0 0], .int .i64 4]) (by simp [results, Tryz.results14, go_sem, d0, d1]) rfl ⟨HD.out.1, none, 0, rfl, HD.out.2.2⟩

  have ht : isB (N : Int) t = true := isB_yes k2
  by_cases k3 : s = t
  · subst k3
    have he : prE N s s = 6 := by
      have hb : bothE (N : Int) s s = 6 := by unfold bothE; rw [if_pos (by omega), if_pos (by omega)]
      unfold prE; rw [hb]; rfl
    have e1 : prW N M s s = 0 := by unfold prW; rw [he]; rfl
    have e2 : prS N M s s = [] := by unfold prS; rw [he]; rfl
    rw [he, e1, e2]
    clear he e1 e2
    have t3 : (s == s) = true := beq_self_eq_true _
    clear k1 k2 hG
    go_enter Tryz.func14, Tryz.ntmps14
    go_wp2_with fail
    generalize ((w.alloc (.cells #[.int .i64 s] 3)).alloc (.cells #[.int .i64 s] 3)).alloc (.cells #[.int .i64 0, .slice none 0 0] 30) = W0 at *
    refine (HNum.out).mono ?_
    rintro e w1 ⟨rfl, hb1⟩
    have HS1 := Lib.hid (HS0.out.keep hb1)
    have HNe1 := Lib.hid (HNet.out.over hb1)
    have HTa1 := Lib.hid (tab_keep HTab.out hb1)
    obtain ⟨cs, ct⟩ := HS1.out.2.1
    obtain ⟨ls, lt⟩ := HS1.out.2.1.lt
    obtain ⟨c0, c1, f0, f1⟩ := HS1.out.2.2
    have hlt := HS1.out.2.2.lt
    clear hb1 HNum HS0 HNet HTab
    have HD := Lib.hid (cut_done (x := 0) (c := 0) (q := none) (L := []) HS1.out.1 (ReadsL.nil _ _ _ _) (w.heap.size + 2) (by omega) HS1.out.2.2 (fun z hz => by cases hz))
    go_wp2_with (go_at_call 33; refine (HV.out _ _).mono ?_; rintro e w' ⟨rfl, rfl⟩)
    obtain ⟨d0, d1, -, -⟩ := HD.out.2.1
    simp only [List.length_nil] at d0 d1
    exact bodyPost_ret (v := .tuple #[.agg #[.int .i64 0, .slice none 0 0], .int .i64 6]) (by simp [results, Tryz.results14, go_sem, d0, d1]) rfl ⟨HD.out.1, none, 0, rfl, HD.out.2.2⟩

  have t3 : (s == t) = false := by simpa using k3
  by_cases k4 : 20 < N
  · have i4 : (N : Int) > 20 := by omega
    have he : prE N s t = 3 := by
      have hb : bothE (N : Int) s t = 0 := by unfold bothE; rw [if_pos (by omega), if_neg (by omega)]
      unfold prE; rw [if_pos hb, if_pos (by omega)]
    have e1 : prW N M s t = 0 := by unfold prW; rw [he]; rfl
    have e2 : prS N M s t = [] := by unfold prS; rw [he]; rfl
    rw [he, e1, e2]
    clear he e1 e2
    clear k1 k2 k3 k4 hG
    go_enter Tryz.func14, Tryz.ntmps14
    go_wp2_with fail
    generalize ((w.alloc (.cells #[.int .i64 s] 3)).alloc (.cells #[.int .i64 t] 3)).alloc (.cells #[.int .i64 0, .slice none 0 0] 30) = W0 at *
    refine (HNum.out).mono ?_
    rintro e w1 ⟨rfl, hb1⟩
    have HS1 := Lib.hid (HS0.out.keep hb1)
    have HNe1 := Lib.hid (HNet.out.over hb1)
    have HTa1 := Lib.hid (tab_keep HTab.out hb1)
    obtain ⟨cs, ct⟩ := HS1.out.2.1
    obtain ⟨ls, lt⟩ := HS1.out.2.1.lt
    obtain ⟨c0, c1, f0, f1⟩ := HS1.out.2.2
    have hlt := HS1.out.2.2.lt
    clear hb1 HNum HS0 HNet HTab
    have HD := Lib.hid (cut_done (x := 0) (c := 0) (q := none) (L := []) HS1.out.1 (ReadsL.nil _ _ _ _) (w.heap.size + 2) (by omega) HS1.out.2.2 (fun z hz => by cases hz))
    go_wp2_with (go_at_call 33; refine (HV.out _ _).mono ?_; rintro e w' ⟨rfl, rfl⟩)
    obtain ⟨d0, d1, -, -⟩ := HD.out.2.1
    simp only [List.length_nil] at d0 d1
    exact bodyPost_ret (v := .tuple #[.agg #[.int .i64 0, .slice none 0 0], .int .i64 3]) (by simp [results, Tryz.results14, go_sem, d0, d1]) rfl ⟨HD.out.1, none, 0, rfl, HD.out.2.2⟩

  have i4 : ¬ (N : Int) > 20 := by omega
  have h20 : N ≤ 20 := by omega
  obtain ⟨a, rfl⟩ : ∃ a : Nat, s = (a : Int) := ⟨s.toNat, by omega⟩
  obtain ⟨b, rfl⟩ : ∃ b : Nat, t = (b : Int) := ⟨t.toNat, by omega⟩
  have ha : a < N := by omega
  have hb : b < N := by omega
  obtain ⟨he, e1, e2⟩ := pr_is hG h20 ha hb (by omega)
  rw [he, e1, e2]
  have h19 : 2 ^ (N - 1) ≤ 2 ^ 19 := Nat.pow_le_pow_right (by decide) (by omega)
  have h2N : 2 ^ N ≤ 2 ^ 20 := Nat.pow_le_pow_right (by decide) h20
  have hlen : (ltF (prA a b) M (2 ^ (N - 1) - 1)).2.length ≤ 1000000 := by have := lt_len (prA a b) M (2 ^ (N - 1) - 1); omega
  have HLt := Lib.hid (fun x (hx : x ∈ (ltF (prA a b) M (2 ^ (N - 1) - 1)).2) => gL_ltN (N := N) (by omega) (Nat.le_refl _) (lt_in (A := prA a b) (M := M) (i := 2 ^ (N - 1) - 1) (g := x) hx))
  have HL := Lib.hid (fun W hn ht (hp : PaSt w (a : Int) (b : Int) W) => lightest_any p N M h20 hG (by omega) 34 #[.pointer (some ⟨w.heap.size, 0, none⟩), .pointer (some ⟨w.heap.size + 1, 0, none⟩)] (enters_of Tryz.func34 (by kernel_rfl) rfl) (prA a b) W hn ht
    (fun g W1 hg hbw => ask_any w.heap.size (w.heap.size + 1) a b g (by omega) (by omega) (by omega) W1 (hp.keep hbw).2.1))
  unfold LightOut at HL
  have HEv := Lib.hid (every_any N (by omega))
  have HO := Lib.hid (fun g hg => other_any g N (by omega) hg)
  have HHas := Lib.hid (fun g hg => has_any g b hg (by omega))
  have HN2 := Lib.hid (And.intro h20 h2N)
  have hmf : ∀ (w : World) (x y : Value), (Instr.makeFunc (.func 34) #[] #[x, y]).run Tryz.prog w = .ok (.func (.func 34) #[] #[x, y]) w := fun w x y => rfl
  clear he e1 e2 k1 k2 k3 k4 hG h19 h2N ha hb h20
  generalize (ltF (prA a b) M (2 ^ (N - 1) - 1)).1 = x at *
  generalize (ltF (prA a b) M (2 ^ (N - 1) - 1)).2 = xs at *
  go_enter Tryz.func14, Tryz.ntmps14
  go_wp2_with fail
  generalize ((w.alloc (.cells #[.int .i64 (a : Int)] 3)).alloc (.cells #[.int .i64 (b : Int)] 3)).alloc (.cells #[.int .i64 0, .slice none 0 0] 30) = W0 at *
  refine (HNum.out).mono ?_
  rintro e w1 ⟨rfl, hb1⟩
  have HS1 := Lib.hid (HS0.out.keep hb1)
  have HNe1 := Lib.hid (HNet.out.over hb1)
  have HTa1 := Lib.hid (tab_keep HTab.out hb1)
  obtain ⟨cs, ct⟩ := HS1.out.2.1
  obtain ⟨ls, lt⟩ := HS1.out.2.1.lt
  obtain ⟨c0, c1, f0, f1⟩ := HS1.out.2.2
  have hlt := HS1.out.2.2.lt
  clear hb1 HNum HS0 HNet HTab
  go_wp2_with (go_at_call 33; refine (HV.out _ _).mono ?_; rintro e w' ⟨rfl, rfl⟩)
  refine (HL.out w1 HNe1.out HTa1.out HS1.out).mono ?_
  rintro e w2 ⟨q, cap, rfl, hr2, hb2⟩
  have HS2 := Lib.hid (HS1.out.keep hb2)
  have HTa2 := Lib.hid (tab_keep HTa1.out hb2)
  have HR2 := Lib.hid hr2
  have ct2 := HS2.out.2.1.2
  have lt2 := HS2.out.2.1.lt.2
  clear hb2 hr2 HS1 HNe1 HTa1 HL cs ct ls lt c0 c1 f0 f1 hlt
  have HA0 : Hid (andG N b (xs.take 0) = 2 ^ N - 1) := Lib.hid (by rw [List.take_zero]; rfl)
  go_wp2_with (go_at_call 36; refine (HEv.out _).mono ?_; rintro e w' ⟨rfl, rfl⟩)
  go_loopw [11, 47] (fun v i wr => ∃ k : Nat, v = .int .u32 (andG N b (xs.take k) : Int) ∧ i = .int .i64 (k : Int) ∧ k ≤ xs.length ∧ wr = w2) (fun _ i _ => xs.length - (intOf i).toNat)
  case atStart => exact ⟨0, by rw [HA0.out], rfl, Nat.zero_le _, rfl⟩
  case round =>
    obtain ⟨k, rfl, rfl, hk, rfl⟩ := hrel
    have j0 : (0 : Int) ≤ (k : Int) := by omega
    by_cases hkl : k < xs.length
    · have j1 : (k : Int) < (xs.length : Int) := by omega
      obtain ⟨bq, off, rfl, hbq, hck⟩ := HR2.out.at hkl
      unfold encG at hck
      have hx := HLt.out xs[k] (List.getElem_mem hkl)
      have h32 : xs[k] < 4294967296 := by have := HN2.out.2; omega
      have HAn : Hid (andG N b (xs.take (k + 1)) = andG N b (xs.take k) &&& orG N b xs[k]) := Lib.hid (by rw [List.take_succ_eq_append_getElem hkl, and_step])
      have HHx := Lib.hid (HHas.out xs[k] h32)
      have HOx := Lib.hid (HO.out xs[k] hx)
      have hal := and_lt N b (xs.take k)
      have hol := or_lt (N := N) (t := b) hx
      have HBit : Hid (bits .and .u32 ((andG N b (xs.take k) : Nat) : Int) ((orG N b xs[k] : Nat) : Int) = ((andG N b (xs.take k) &&& orG N b xs[k] : Nat) : Int)) := Lib.hid (u32_and_nat _ _ (by have := HN2.out.2; omega) (by have := HN2.out.2; omega))
      have HOr : Hid (orG N b xs[k] = if xs[k].testBit b = true then othG N xs[k] else xs[k]) := Lib.hid rfl
      clear hx h32 hal hol
      generalize xs[k] = y at *
      generalize orG N b y = z at *
      generalize andG N b (xs.take k) = r at *
      cases hbit : y.testBit b with
      | true =>
        rw [hbit] at HHx
        have hz := HOr.out
        rw [if_pos hbit] at hz
        subst hz
        clear HOr hbit
        go_wp2_with (first | (go_at_call 35; refine (HHx.out _).mono ?_; rintro e w' ⟨rfl, rfl⟩) | (go_at_call 37; refine (HOx.out _).mono ?_; rintro e w' ⟨rfl, rfl⟩))
        go_roundw
        case rel => exact ⟨k + 1, by rw [HAn.out, ← HBit.out], by go_num, by omega, trivial⟩
        case measure => (simp [intOf] <;> omega)
      | false =>
        rw [hbit] at HHx
        have hz := HOr.out
        rw [if_neg (by rw [hbit]; decide)] at hz
        subst hz
        clear HOr hbit
        go_wp2_with (first | (go_at_call 35; refine (HHx.out _).mono ?_; rintro e w' ⟨rfl, rfl⟩))
        go_roundw
        case rel => exact ⟨k + 1, by rw [HAn.out, ← HBit.out], by go_num, by omega, trivial⟩
        case measure => (simp [intOf] <;> omega)
    · have hke : k = xs.length := by omega
      subst hke
      have j1 : ¬ ((xs.length : Nat) : Int) < (xs.length : Int) := by omega
      have hal := and_lt N b xs
      have hg32 : andG N b xs < 4294967296 := by have := HN2.out.2; omega
      have HEnd : Hid (andG N b (xs.take xs.length) = andG N b xs) := Lib.hid (by rw [List.take_length])
      rw [HEnd.out]
      go_wp2_with fail
      refine (list_any (andG N b xs) hg32 wr HTa2.out).mono ?_
      rintro e w3 ⟨q3, c3, rfl, hr3, hq3, hb3⟩
      have HS3 := Lib.hid (HS2.out.keep hb3)
      have HD := Lib.hid (cut_done (x := x) (c := c3) HS3.out.1 hr3 (w.heap.size + 2) (by omega) HS3.out.2.2 (fun z hz => by have := hq3 z hz; have := HS2.out.2.2.lt; omega))
      obtain ⟨c0, c1, f0, f1⟩ := HS3.out.2.2
      have hlt := HS3.out.2.2.lt
      clear hb3 hr3 hq3 HS2 HTa2
      go_wp2
      obtain ⟨d0, d1, -, -⟩ := HD.out.2.1
      exact bodyPost_ret (v := .tuple #[.agg #[.int .i64 x, .slice q3 (grpL (andG N b xs)).length c3], .int .i64 0]) (by simp [results, Tryz.results14, go_sem, d0, d1]) rfl ⟨HD.out.1, q3, c3, rfl, HD.out.2.2⟩
end Go.Proofs.YtceejjgmepaonaaGreatDoor.Bg
/- Why there is no graph of so many vertices and these edges. -/
namespace Go.Proofs.YtceejjgmepaonaaGreatDoor
open Go.RowKit Go.ChangeShapes EdPure
/-- Why there is no graph, and where. -/
def errN (n : Int) (l : List Ed) : Int × Int := if n < 0 then (1, 0) else if 4096 < n ∨ 1048576 < l.length then (3, 0) else chkL n l 0
theorem chkL_good {n : Int} : ∀ {l : List Ed} {i : Nat}, (chkL n l i).1 = 0 → ∀ e ∈ l, chkE n e = 0
  | [], _, _, e, he => by simp at he
  | x :: r, i, h, e, he => by
    unfold chkL at h
    by_cases hx : chkE n x = 0
    · rw [if_pos hx] at h
      rcases List.mem_cons.1 he with rfl | he
      · exact hx
      · exact chkL_good h e he
    · rw [if_neg hx] at h
      exact absurd h hx
theorem chkL_zero {n : Int} {l : List Ed} (h : (chkL n l 0).1 = 0) : chkL n l 0 = (0, 0) :=
  chk_miss n l 0 fun _ hj => chkL_good h _ (List.getElem_mem hj)
end Go.Proofs.YtceejjgmepaonaaGreatDoor
/- Contract of gather: a map of sums by pairs. -/
namespace Go.Proofs.YtceejjgmepaonaaGreatDoor
open Go.RowKit Go.ChangeShapes Go.Maps EdPure NumPure
def GatRel (w : World) (l : List Ed) (k : Nat) (wr : World) : Prop :=
  k ≤ l.length ∧ Below w.heap.size w wr ∧ ∃ M D, gathM (l.take k) = some M ∧ OwnsD wr w.heap.size M.length D ∧ MapIs M D
def GathOut (l : List Ed) (w : World) (e : Ending) (w' : World) : Prop :=
  Below w.heap.size w w' ∧ ((gathM l = none ∧ e = .returned (.tuple #[.map none, .bool false])) ∨
    ∃ M m D, gathM l = some M ∧ e = .returned (.tuple #[.map (some m), .bool true]) ∧ w.heap.size ≤ m ∧ OwnsD w' m M.length D ∧ MapIs M D)
theorem made_map (w : World) : (Instr.makeMap 89 none).run Tryz.prog w = .ok (.map (some w.heap.size)) (w.alloc (.map #[] 0)) := rfl
theorem step_loop {M : List Ed} {u v x : Int} (h : u = v) : stepM (some M) (u, v, x) = some M := by unfold stepM; simp [h]
theorem step_add {M : List Ed} {u v x : Int} (h : u ≠ v) : stepM (some M) (u, v, x) = addL M (normE (u, v, x)) := by unfold stepM; simp [h]
set_option maxRecDepth 100000 in
set_option maxHeartbeats 800000 in
theorem gather_any (a : Option Addr) (c : Nat) (l : List Ed) (hl : l.length ≤ 1048576) (hI : InL l) (w : World) (hR : ReadsE w.heap.size w a l) :
    Calls Tryz.prog 39 #[.slice a l.length c] w fun e w' => GathOut l w e w' := by
  have HR := Lib.hid hR
  have HI := Lib.hid hI
  have hmm := made_map
  have HS : Hid (GatRel w l 0 (w.alloc (.map #[] 0))) := Lib.hid ⟨Nat.zero_le _, (Below.refl _ _).alloc (Nat.le_refl _) _, [], .map [], by rw [List.take_zero]; rfl, World.ownsMap_made _ _ _ _, MapIs.empty⟩
  clear hR hI
  go_enter Tryz.func39, Tryz.ntmps39
  go_wp2
  go_loopw [13] (fun i wr => ∃ k : Nat, i = .int .i64 k ∧ Hid (GatRel w l k wr)) (fun i _ => l.length - (intOf i).toNat)
  case atStart => exact ⟨0, rfl, HS⟩
  case round =>
    obtain ⟨k, rfl, HK⟩ := hrel
    clear HS hmm
    have i0 : (0 : Int) ≤ (k : Int) := by omega
    by_cases hlt : k < l.length
    · have i1 : (k : Int) < (l.length : Int) := by omega
      obtain ⟨-, hB, M, D, hM, hO, hD⟩ := HK.out
      obtain ⟨u, v, x, he⟩ : ∃ u v x, l[k] = (u, v, x) := ⟨_, _, _, rfl⟩
      obtain ⟨b, off, rfl, hbw, hbr, c0, c1, c2⟩ := HR.out.cells hlt hB he
      have hin : InE (u, v, x) := by have := HI.out.at hlt; rwa [he] at this
      have hst : gathM (l.take (k + 1)) = stepM (some M) (u, v, x) := by rw [gath_take hlt, hM, he]
      have hgood := (gath_upto HI.out k (by omega) hM).1
      have hMl := (gath_upto HI.out k (by omega) hM).2
      by_cases huv : u = v
      · subst huv
        have HN : Hid (GatRel w l (k + 1) (wr.alloc (.cells #[.int .i64 u, .int .i64 u, .int .i64 x] 51))) := Lib.hid
          ⟨hlt, hB.alloc hB.size _, M, D, hst.trans (step_loop rfl), map_on hO ((Below.refl _ _).alloc (Nat.le_refl _) _), hD⟩
        clear hB hM hO hD he hin hst hgood
        go_wp2
        exact ⟨⟨k + 1, by go_num, HN⟩, by simp [intOf]; omega⟩
      · have HN := Lib.hid (fun W => ends_any (u, v, x) W)
        obtain ⟨p, q, y, hq⟩ : ∃ p q y, normE (u, v, x) = (p, q, y) := ⟨_, _, _, rfl⟩
        obtain rfl : y = x := by have := norm_w (u, v, x); rw [hq] at this; exact this
        have hnin : InE (p, q, y) := by rw [← hq]; exact norm_in hin
        have hpq : p < q := by have := norm_lt (e := (u, v, y)) huv; rw [hq] at this; exact this
        rw [step_add huv, hq] at hst
        have hee : endsE (u, v, y) = (p, q) := by unfold endsE; rw [hq]
        rw [hee] at HN
        unfold encE encP at HN
        have t : (u == v) = false := by simpa using huv
        have h3 := ThreeAt.new wr (.int .i64 u) (.int .i64 v) (.int .i64 y) 51
        have hO1 := map_on hO ((Below.refl _ _).alloc (Nat.le_refl _) (.cells #[.int .i64 u, .int .i64 v, .int .i64 y] 51))
        have hB1 := hB.alloc hB.size (.cells #[.int .i64 u, .int .i64 v, .int .i64 y] 51)
        have H1 := Lib.hid (And.intro h3 (And.intro hO1 hB1))
        have HQ := Lib.hid (And.intro hst (And.intro hnin (And.intro hpq (And.intro hgood hD))))
        have hin3 : In y := hin.2.2
        clear h3 hO1 hB1 hst hnin hpq hgood hD hin hq hee hO hB hM he huv
        go_wp2_with fail
        have hbw : wr.heap.size < (wr.alloc (.cells #[.int .i64 u, .int .i64 v, .int .i64 y] 51)).heap.size := by simp
        generalize wr.alloc (.cells #[.int .i64 u, .int .i64 v, .int .i64 y] 51) = W1 at *
        refine (HN.out _).mono ?_
        rintro e w1 ⟨rfl, hb⟩
        have h2 := TwoAt.new w1 (.int .i64 p) (.int .i64 q) 92
        have hb2 : Below W1.heap.size W1 (w1.alloc (.cells #[.int .i64 p, .int .i64 q] 92)) := hb.alloc hb.size _
        have h3 := H1.out.1.on hb2 H1.out.1.lt
        have hO2 := map_on H1.out.2.1 hb2
        have hB2 := H1.out.2.2.trans (hb2.mono H1.out.2.2.size)
        go_wp2
        have h2' : TwoAt w1.heap.size ((w1.alloc (.cells #[.int .i64 p, .int .i64 q] 92)).drewN 1) (.int .i64 p) (.int .i64 q) := h2
        have h3' : ThreeAt wr.heap.size ((w1.alloc (.cells #[.int .i64 p, .int .i64 q] 92)).drewN 1) (.int .i64 u) (.int .i64 v) (.int .i64 y) := h3
        have hO3 : OwnsD ((w1.alloc (.cells #[.int .i64 p, .int .i64 q] 92)).drewN 1) w.heap.size M.length D := hO2
        have hB3 : Below w.heap.size w ((w1.alloc (.cells #[.int .i64 p, .int .i64 q] 92)).drewN 1) := below_drewN hB2 1
        clear h2 h3 hO2 hB2 hb hb2 H1 HN
        refine wp_region_still_tail 10 (by kernel_rfl) (by kernel_rfl) ?_
        change wpStill _ _ ((w1.alloc (.cells #[.int .i64 p, .int .i64 q] 92)).drewN 1) _ _ _
        change wpStill _ _ _ (fun a' => wpList _ _ _ _ _ ((w1.alloc (.cells #[.int .i64 p, .int .i64 q] 92)).drewN 1)) _ _
        generalize (w1.alloc (.cells #[.int .i64 p, .int .i64 q] 92)).drewN 1 = W3 at *
        generalize w1.heap.size = P1 at *
        obtain ⟨-, ⟨ip, iq, -⟩, hpq, hgood, hD⟩ := HQ.out
        have hlook := look_any hO3 hD ip iq
        have HO3 := Lib.hid (And.intro hO3 hB3)
        obtain ⟨a0, a1, -, -⟩ := h2'
        obtain ⟨d0, d1, d2, -, -, -⟩ := h3'
        have hw := wOf_in (M := M) (fun x hx => (hgood.2 x hx).2) p q
        have hadd := add_none (e := (p, q, y)) hgood.1 hin3
        have HA := Lib.hid (And.intro hadd (And.intro (And.intro ip iq) (And.intro hgood hD)))
        clear hO3 hB3 hgood hD hadd ip iq
        simp only [List.take_succ_cons, List.take_zero, List.drop_succ_cons, List.drop_zero]
        have hcall := add_any (wOf M p q) y hw hin3 W3
        clear hw
        generalize hsum : wOf M p q = sum at *
        cases hf : fitsB (sum + y)
        · have HX : Hid (gathM l = none) := Lib.hid (gath_stays (k + 1) (HQ.out.1.trans (HA.out.1.2 hf)))
          rw [hf] at hcall
          have HC := Lib.hid hcall
          clear hf hcall hsum
          iterate 5 still_step
          still_call (HC.out.mono fun _ _ ⟨h1, h2⟩ => ⟨h1, h2.symm⟩)
          iterate 4 still_step
          refine wpStill_nil ?_
          go_wp2
          go_ret2
          exact ⟨HO3.out.2, Or.inl ⟨HX.out, rfl⟩⟩
        · have hc : cut (sum + y) = sum + y := cut_in ((fits_iff _).1 hf)
          rw [hf, hc] at hcall
          obtain ⟨M', hM'⟩ : ∃ M', addL M (p, q, y) = some M' := by
            cases hM' : addL M (p, q, y) with
            | none => rw [HA.out.1.1 hM'] at hf; cases hf
            | some M' => exact ⟨M', rfl⟩
          have HP : Hid (MapIs M' (D.put (kP p q) (dI (sum + y))) ∧ gathM (l.take (k + 1)) = some M') := Lib.hid ⟨map_addP HA.out.2.2.2 HA.out.2.2.1.1 HA.out.2.1.1 HA.out.2.1.2 hM' hsum, HQ.out.1.trans hM'⟩
          have hwf : (Lit.int .i64 (sum + y)).wf = true := WalkArith.wf_i64 (by have := (fits_iff _).1 hf; omega)
          have HC := Lib.hid hcall
          have HK2 : Hid (keyOf Tryz.prog 92 (.agg #[.int .i64 p, .int .i64 q]) = some (kP p q)) := Lib.hid (keyP HA.out.2.1.1 HA.out.2.1.2)
          have HO4 : Hid (W3.ownsMap Tryz.prog 92 (plainElem (H := Unit) Tryz.prog 2) w.heap.size M.length D) := Lib.hid HO3.out.1
          have HV : Hid (plainElem (H := Unit) Tryz.prog 2 (.int .i64 (sum + y)) = some (dI (sum + y), [])) := Lib.hid (plainElem_int Tryz.underlying2 hwf)
          clear hf hcall hsum hc hM'
          iterate 5 still_step
          still_call (HC.out.mono fun _ _ ⟨h1, h2⟩ => ⟨h1, h2.symm⟩)
          iterate 4 still_step
          refine wpStill_nil ?_
          go_wp2_with (first
            | (at_mapUpdate; refine wpList_mapUpdate_own _ rfl _ _ _ 89 rfl 92 2 lawP Tryz.underlying89 _ w.heap.size M.length D rfl HO4.out (by unfold maxLen; omega) (.agg #[.int .i64 p, .int .i64 q]) (.int .i64 (sum + y)) (kP p q) rfl rfl HK2.out (dI (sum + y)) [] HV.out ?_; intro w5 hown5 hg5; have HZ := Lib.hid (And.intro hown5 hg5); clear hown5 hg5; go_frame))
          exact ⟨⟨k + 1, by go_num, Lib.hid ⟨hlt, HO3.out.2.grown HZ.out.2 HO3.out.2.size (fun j hj => by cases hj; exact Nat.le_refl _), M', D.put (kP p q) (dI (sum + y)), HP.out.2, by have h := map_tight HZ.out.1; rwa [HP.out.1.2.2.2] at h, HP.out.1⟩⟩, by simp [intOf]; omega⟩
    · have hk : k = l.length := by have := HK.out.1; omega
      subst hk
      obtain ⟨-, hB, M, D, hM, hO, hD⟩ := HK.out
      rw [List.take_length] at hM
      have HZ := Lib.hid (And.intro hB (And.intro hM (And.intro hO hD)))
      clear hB hM hO hD
      go_wp2
      go_ret2
      exact ⟨HZ.out.1, Or.inr ⟨M, w.heap.size, D, HZ.out.2.1, rfl, Nat.le_refl _, HZ.out.2.2.1, HZ.out.2.2.2⟩⟩
end Go.Proofs.YtceejjgmepaonaaGreatDoor
