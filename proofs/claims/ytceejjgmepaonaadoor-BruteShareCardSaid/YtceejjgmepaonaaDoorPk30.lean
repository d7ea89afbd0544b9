/- Texts that the laws of this seat stand on, part 30. -/
import Derived.Test.YtceejjgmepaonaaDoorPk29
import Derived.Deep.QuietTactic
import Derived.Test.YtceejjgmepaonaaDoorPk18
/- brute's Pair: the least weight between two, and what all sides of this weight share. -/
namespace Go.Proofs.YtceejjgmepaonaaDoor.Bg
open Go.RowKit Go.ChangeShapes BgPure BgRes EdPure NtPure Br Sd
theorem flip_g {P : Program} {f : FuncId} {args : Array Value} {w : World} {v : Value} (h : Calls P f args w fun e w' => e = .returned v ∧ w = w') : Calls P f args w fun e w' => e = .returned v ∧ w' = w := h.mono fun _ _ ⟨h1, h2⟩ => ⟨h1, h2.symm⟩
/-- Both numbers, each in a cell of its own. -/
def TwoC (X Y : Nat) (s t : Int) (W : World) : Prop := W.cell? ⟨X, 0, none⟩ = some (.int .i64 s) ∧ W.cell? ⟨Y, 0, none⟩ = some (.int .i64 t)
theorem TwoC.lt {X Y : Nat} {s t : Int} {W : World} (h : TwoC X Y s t W) : X < W.heap.size ∧ Y < W.heap.size := ⟨World.block_lt_of_cell? W _ h.1, World.block_lt_of_cell? W _ h.2⟩
theorem TwoC.keep {X Y : Nat} {s t : Int} {W W' : World} (h : TwoC X Y s t W) (hb : Below W.heap.size W W') : TwoC X Y s t W' := ⟨(hb.cell (p := ⟨X, 0, none⟩) h.lt.1).trans h.1, (hb.cell (p := ⟨Y, 0, none⟩) h.lt.2).trans h.2⟩
set_option maxRecDepth 100000 in
set_option maxHeartbeats 1000000 in
theorem ask_any (X Y : Nat) (s t g : Nat) (hs : s < 32) (ht : t < 32) (hg : g < 4294967296) (w : World) (h : TwoC X Y (s : Int) (t : Int) w) :
    Calls Tryd.prog 25 #[.int .u32 (g : Int), .pointer (some ⟨X, 0, none⟩), .pointer (some ⟨Y, 0, none⟩)] w fun e w' => e = .returned (.bool (prA s t g)) ∧ Below w.heap.size w w' := by
  obtain ⟨c1, c2⟩ := h
  have HG := Lib.hid (fun (v : Nat) (hv : v < 32) w => has_any g v hg hv w)
  have HP : Hid (prA s t g = (g.testBit s != g.testBit t)) := Lib.hid rfl
  generalize prA s t g = r at *
  go_enter Tryd.func25, Tryd.ntmps25
  go_wp2_with fail
  go_quiet ((go_at_call 26; exact Calls.quiet_of_same (flip_g (HG.out _ (by assumption) _))))
  go_wp2
  go_ret
  exact ⟨bool_ret HP.out.symm, below_drewN (Below.refl _ _) _⟩
/-- Is it a vertex? -/
def isB (n v : Int) : Bool := decide (0 ≤ v) && decide (v < n)
theorem isB_yes {n v : Int} (h : 0 ≤ v ∧ v < n) : isB n v = true := by unfold isB; rw [decide_eq_true h.1, decide_eq_true h.2]; rfl
theorem isB_no {n v : Int} (h : ¬ (0 ≤ v ∧ v < n)) : isB n v = false := by
  unfold isB
  cases h1 : decide (0 ≤ v) with
  | false => rfl
  | true =>
    cases h2 : decide (v < n) with
    | false => rfl
    | true => exact absurd ⟨of_decide_eq_true h1, of_decide_eq_true h2⟩ h
/-- The variables of Pair: both numbers, the result. -/
def PaSt (w : World) (s t : Int) (W : World) : Prop := Below w.heap.size w W ∧ TwoC w.heap.size (w.heap.size + 1) s t W ∧ TwoAt (w.heap.size + 2) W (.int .i64 0) (.slice none 0 0)
theorem PaSt.keep {w : World} {s t : Int} {W W' : World} (h : PaSt w s t W) (hb : Below W.heap.size W W') : PaSt w s t W' := ⟨h.1.trans (hb.mono h.1.size), h.2.1.keep hb, h.2.2.on hb h.2.2.lt⟩
theorem pa_start (w : World) (s t : Int) (T T' T2 : TypeId) : PaSt w s t (((w.alloc (.cells #[.int .i64 s] T)).alloc (.cells #[.int .i64 t] T')).alloc (.cells #[.int .i64 0, .slice none 0 0] T2)) := by
  have b1 : Below w.heap.size w (w.alloc (.cells #[.int .i64 s] T)) := (Below.refl _ _).alloc (Nat.le_refl _) _
  have b2 := (Below.refl _ (w.alloc (.cells #[.int .i64 s] T))).alloc (Nat.le_refl _) (.cells #[.int .i64 t] T')
  have b3 := (Below.refl _ ((w.alloc (.cells #[.int .i64 s] T)).alloc (.cells #[.int .i64 t] T'))).alloc (Nat.le_refl _) (.cells #[.int .i64 0, .slice none 0 0] T2)
  have c1 := CellAt.new w (.int .i64 s) T
  have c2 := CellAt.new (w.alloc (.cells #[.int .i64 s] T)) (.int .i64 t) T'
  have c3 := TwoAt.new ((w.alloc (.cells #[.int .i64 s] T)).alloc (.cells #[.int .i64 t] T')) (.int .i64 0) (.slice none 0 0) T2
  rw [World.size_alloc] at c2 c3
  rw [World.size_alloc] at c3
  exact ⟨b1.trans ((b2.trans (b3.mono b2.size)).mono b1.size), ⟨((c1.keep b2).keep b3).1, (c2.keep b3).1⟩, c3⟩
set_option maxRecDepth 100000 in
set_option maxHeartbeats 8000000 in
theorem brPair_any (p : Option Addr) (N : Nat) (M : List Ed) (_hN : N ≤ 4096) (hG : GoodN N M) (hM : M.length ≤ 100000) (s t : Int) (w : World) (h : NetAt p N M w) (hT : Tab w) :
    Calls Tryd.prog 7 #[.pointer p, .int .i64 s, .int .i64 t] w fun e w' => SideC (prW N M s t) (prS N M s t) (prE N s t) w e w' := by
  have hst := pa_start w s t 3 3 31
  have HS0 := Lib.hid hst
  have HNet := Lib.hid (h.over hst.1)
  have HNum := Lib.hid (num_any p N M _ (h.over hst.1))
  have HTab := Lib.hid (tab_keep hT hst.1)
  have HV : Hid (∀ v W, Calls Tryd.prog 23 #[.int .i64 (N : Int), .int .i64 v] W fun e w' => e = .returned (.bool (isB (N : Int) v)) ∧ W = w') := Lib.hid (fun v W => isV_any (N : Int) v W)
  clear h hT hst
  by_cases k1 : 0 ≤ s ∧ s < (N : Int)
  case neg =>
    have hs : isB (N : Int) s = false := isB_no k1
    have he : prE N s t = 4 := by
      have hb : bothE (N : Int) s t = 4 := if_neg (by omega)
      unfold prE; rw [hb]; rfl
    have e1 : prW N M s t = 0 := by unfold prW; rw [he]; rfl
    have e2 : prS N M s t = [] := by unfold prS; rw [he]; rfl
    rw [he, e1, e2]
    clear he e1 e2
    clear k1 hG
    go_enter Tryd.func7, Tryd.ntmps7
    go_wp2_with fail
    generalize ((w.alloc (.cells #[.int .i64 s] 3)).alloc (.cells #[.int .i64 t] 3)).alloc (.cells #[.int .i64 0, .slice none 0 0] 31) = W0 at *
    refine (HNum.out).mono ?_
    rintro e w1 ⟨rfl, hb1⟩
    have HS1 := Lib.hid (HS0.out.keep hb1)
    have HNe1 := Lib.hid (HNet.out.over hb1)
    have HTa1 := Lib.hid (tab_keep HTab.out hb1)
    obtain ⟨cs, ct⟩ := HS1.out.2.1
    obtain ⟨ls, lt⟩ := HS1.out.2.1.lt
    obtain ⟨c0, c1, f0, f1⟩ := HS1.out.2.2
    have hlt := HS1.out.2.2.lt
    clear hb1 HNum HS0 HNet HTab
    have HD := Lib.hid (cut_done (x := 0) (c := 0) (q := none) (L := []) HS1.out.1 (ReadsL.nil _ _ _ _) (w.heap.size + 2) (by omega) HS1.out.2.2 (fun z hz => by cases hz))
    go_wp2_with (go_at_call 23; refine (HV.out _ _).mono ?_; rintro e w' ⟨rfl, rfl⟩)
    obtain ⟨d0, d1, -, -⟩ := HD.out.2.1
    simp only [List.length_nil] at d0 d1
    exact bodyPost_ret (v := .tuple #[.agg #[.int .i64 0, .slice none 0 0], .int .i64 4]) (by simp [results, Tryd.results7, go_sem, d0, d1]) rfl ⟨HD.out.1, none, 0, rfl, HD.out.2.2⟩

  have hs : isB (N : Int) s = true := isB_yes k1
  by_cases k2 : 0 ≤ t ∧ t < (N : Int)
  case neg =>
    have ht : isB (N : Int) t = false := isB_no k2
    have he : prE N s t = 4 := by
      have hb : bothE (N : Int) s t = 4 := if_neg (by omega)
      unfold prE; rw [hb]; rfl
    have e1 : prW N M s t = 0 := by unfold prW; rw [he]; rfl
    have e2 : prS N M s t = [] := by unfold prS; rw [he]; rfl
    rw [he, e1, e2]
    clear he e1 e2
    clear k1 k2 hG
    go_enter Tryd.func7, Tryd.ntmps7
    go_wp2_with fail
    generalize ((w.alloc (.cells #[.int .i64 s] 3)).alloc (.cells #[.int .i64 t] 3)).alloc (.cells #[.int .i64 0, .slice none 0 0] 31) = W0 at *
    refine (HNum.out).mono ?_
    rintro e w1 ⟨rfl, hb1⟩
    have HS1 := Lib.hid (HS0.out.keep hb1)
    have HNe1 := Lib.hid (HNet.out.over hb1)
    have HTa1 := Lib.hid (tab_keep HTab.out hb1)
    obtain ⟨cs, ct⟩ := HS1.out.2.1
    obtain ⟨ls, lt⟩ := HS1.out.2.1.lt
    obtain ⟨c0, c1, f0, f1⟩ := HS1.out.2.2
    have hlt := HS1.out.2.2.lt
    clear hb1 HNum HS0 HNet HTab
    have HD := Lib.hid (cut_done (x := 0) (c := 0) (q := none) (L := []) HS1.out.1 (ReadsL.nil _ _ _ _) (w.heap.size + 2) (by omega) HS1.out.2.2 (fun z hz => by cases hz))
    go_wp2_with (go_at_call 23; refine (HV.out _ _).mono ?_; rintro e w' ⟨rfl, rfl⟩)
    obtain ⟨d0, d1, -, -⟩ := HD.out.2.1
    simp only [List.length_nil] at d0 d1
    exact bodyPost_ret (v := .tuple #[.agg #[.int .i64 0, .slice none 0 0], .int .i64 4]) (by simp [results, Tryd.results7, go_sem, d0, d1]) rfl ⟨HD.out.1, none, 0, rfl, HD.out.2.2⟩

  have ht : isB (N : Int) t = true := isB_yes k2
  by_cases k3 : s = t
  · subst k3
    have he : prE N s s = 6 := by
      have hb : bothE (N : Int) s s = 6 := by unfold bothE; rw [if_pos (by omega), if_pos (by omega)]
      unfold prE; rw [hb]; rfl
    have e1 : prW N M s s = 0 := by unfold prW; rw [he]; rfl
    have e2 : prS N M s s = [] := by unfold prS; rw [he]; rfl
    rw [he, e1, e2]
    clear he e1 e2
    have t3 : (s == s) = true := beq_self_eq_true _
    clear k1 k2 hG
    go_enter Tryd.func7, Tryd.ntmps7
    go_wp2_with fail
    generalize ((w.alloc (.cells #[.int .i64 s] 3)).alloc (.cells #[.int .i64 s] 3)).alloc (.cells #[.int .i64 0, .slice none 0 0] 31) = W0 at *
    refine (HNum.out).mono ?_
    rintro e w1 ⟨rfl, hb1⟩
    have HS1 := Lib.hid (HS0.out.keep hb1)
    have HNe1 := Lib.hid (HNet.out.over hb1)
    have HTa1 := Lib.hid (tab_keep HTab.out hb1)
    obtain ⟨cs, ct⟩ := HS1.out.2.1
    obtain ⟨ls, lt⟩ := HS1.out.2.1.lt
    obtain ⟨c0, c1, f0, f1⟩ := HS1.out.2.2
    have hlt := HS1.out.2.2.lt
    clear hb1 HNum HS0 HNet HTab
    have HD := Lib.hid (cut_done (x := 0) (c := 0) (q := none) (L := []) HS1.out.1 (ReadsL.nil _ _ _ _) (w.heap.size + 2) (by omega) HS1.out.2.2 (fun z hz => by cases hz))
    go_wp2_with (go_at_call 23; refine (HV.out _ _).mono ?_; rintro e w' ⟨rfl, rfl⟩)
    obtain ⟨d0, d1, -, -⟩ := HD.out.2.1
    simp only [List.length_nil] at d0 d1
    exact bodyPost_ret (v := .tuple #[.agg #[.int .i64 0, .slice none 0 0], .int .i64 6]) (by simp [results, Tryd.results7, go_sem, d0, d1]) rfl ⟨HD.out.1, none, 0, rfl, HD.out.2.2⟩

  have t3 : (s == t) = false := by simpa using k3
  by_cases k4 : 20 < N
  · have i4 : (N : Int) > 20 := by omega
    have he : prE N s t = 3 := by
      have hb : bothE (N : Int) s t = 0 := by unfold bothE; rw [if_pos (by omega), if_neg (by omega)]
      unfold prE; rw [if_pos hb, if_pos (by omega)]
    have e1 : prW N M s t = 0 := by unfold prW; rw [he]; rfl
    have e2 : prS N M s t = [] := by unfold prS; rw [he]; rfl
    rw [he, e1, e2]
    clear he e1 e2
    clear k1 k2 k3 k4 hG
    go_enter Tryd.func7, Tryd.ntmps7
    go_wp2_with fail
    generalize ((w.alloc (.cells #[.int .i64 s] 3)).alloc (.cells #[.int .i64 t] 3)).alloc (.cells #[.int .i64 0, .slice none 0 0] 31) = W0 at *
    refine (HNum.out).mono ?_
    rintro e w1 ⟨rfl, hb1⟩
    have HS1 := Lib.hid (HS0.out.keep hb1)
    have HNe1 := Lib.hid (HNet.out.over hb1)
    have HTa1 := Lib.hid (tab_keep HTab.out hb1)
    obtain ⟨cs, ct⟩ := HS1.out.2.1
    obtain ⟨ls, lt⟩ := HS1.out.2.1.lt
    obtain ⟨c0, c1, f0, f1⟩ := HS1.out.2.2
    have hlt := HS1.out.2.2.lt
    clear hb1 HNum HS0 HNet HTab
    have HD := Lib.hid (cut_done (x := 0) (c := 0) (q := none) (L := []) HS1.out.1 (ReadsL.nil _ _ _ _) (w.heap.size + 2) (by omega) HS1.out.2.2 (fun z hz => by cases hz))
    go_wp2_with (go_at_call 23; refine (HV.out _ _).mono ?_; rintro e w' ⟨rfl, rfl⟩)
    obtain ⟨d0, d1, -, -⟩ := HD.out.2.1
    simp only [List.length_nil] at d0 d1
    exact bodyPost_ret (v := .tuple #[.agg #[.int .i64 0, .slice none 0 0], .int .i64 3]) (by simp [results, Tryd.results7, go_sem, d0, d1]) rfl ⟨HD.out.1, none, 0, rfl, HD.out.2.2⟩

  have i4 : ¬ (N : Int) > 20 := by omega
  have h20 : N ≤ 20 := by omega
  obtain ⟨a, rfl⟩ : ∃ a : Nat, s = (a : Int) := ⟨s.toNat, by omega⟩
  obtain ⟨b, rfl⟩ : ∃ b : Nat, t = (b : Int) := ⟨t.toNat, by omega⟩
  have ha : a < N := by omega
  have hb : b < N := by omega
  obtain ⟨he, e1, e2⟩ := pr_is hG h20 ha hb (by omega)
  rw [he, e1, e2]
  have h19 : 2 ^ (N - 1) ≤ 2 ^ 19 := Nat.pow_le_pow_right (by decide) (by omega)
  have h2N : 2 ^ N ≤ 2 ^ 20 := Nat.pow_le_pow_right (by decide) h20
  have hlen : (ltF (prA a b) M (2 ^ (N - 1) - 1)).2.length ≤ 1000000 := by have := lt_len (prA a b) M (2 ^ (N - 1) - 1); omega
  have HLt := Lib.hid (fun x (hx : x ∈ (ltF (prA a b) M (2 ^ (N - 1) - 1)).2) => gL_ltN (N := N) (by omega) (Nat.le_refl _) (lt_in (A := prA a b) (M := M) (i := 2 ^ (N - 1) - 1) (g := x) hx))
  have HL := Lib.hid (fun W hn ht (hp : PaSt w (a : Int) (b : Int) W) => lightest_any p N M h20 hG (by omega) 25 #[.pointer (some ⟨w.heap.size, 0, none⟩), .pointer (some ⟨w.heap.size + 1, 0, none⟩)] (enters_of Tryd.func25 (by kernel_rfl) rfl) (prA a b) W hn ht
    (fun g W1 hg hbw => ask_any w.heap.size (w.heap.size + 1) a b g (by omega) (by omega) (by omega) W1 (hp.keep hbw).2.1))
  unfold LightOut at HL
  have HEv := Lib.hid (every_any N (by omega))
  have HO := Lib.hid (fun g hg => other_any g N (by omega) hg)
  have HHas := Lib.hid (fun g hg => has_any g b hg (by omega))
  have HN2 := Lib.hid (And.intro h20 h2N)
  have hmf : ∀ (w : World) (x y : Value), (Instr.makeFunc (.func 25) #[] #[x, y]).run Tryd.prog w = .ok (.func (.func 25) #[] #[x, y]) w := fun w x y => rfl
  clear he e1 e2 k1 k2 k3 k4 hG h19 h2N ha hb h20
  generalize (ltF (prA a b) M (2 ^ (N - 1) - 1)).1 = x at *
  generalize (ltF (prA a b) M (2 ^ (N - 1) - 1)).2 = xs at *
  go_enter Tryd.func7, Tryd.ntmps7
  go_wp2_with fail
  generalize ((w.alloc (.cells #[.int .i64 (a : Int)] 3)).alloc (.cells #[.int .i64 (b : Int)] 3)).alloc (.cells #[.int .i64 0, .slice none 0 0] 31) = W0 at *
  refine (HNum.out).mono ?_
  rintro e w1 ⟨rfl, hb1⟩
  have HS1 := Lib.hid (HS0.out.keep hb1)
  have HNe1 := Lib.hid (HNet.out.over hb1)
  have HTa1 := Lib.hid (tab_keep HTab.out hb1)
  obtain ⟨cs, ct⟩ := HS1.out.2.1
  obtain ⟨ls, lt⟩ := HS1.out.2.1.lt
  obtain ⟨c0, c1, f0, f1⟩ := HS1.out.2.2
  have hlt := HS1.out.2.2.lt
  clear hb1 HNum HS0 HNet HTab
  go_wp2_with (go_at_call 23; refine (HV.out _ _).mono ?_; rintro e w' ⟨rfl, rfl⟩)
  refine (HL.out w1 HNe1.out HTa1.out HS1.out).mono ?_
  rintro e w2 ⟨q, cap, rfl, hr2, hb2⟩
  have HS2 := Lib.hid (HS1.out.keep hb2)
  have HTa2 := Lib.hid (tab_keep HTa1.out hb2)
  have HR2 := Lib.hid hr2
  have ct2 := HS2.out.2.1.2
  have lt2 := HS2.out.2.1.lt.2
  clear hb2 hr2 HS1 HNe1 HTa1 HL cs ct ls lt c0 c1 f0 f1 hlt
  have HA0 : Hid (andG N b (xs.take 0) = 2 ^ N - 1) := Lib.hid (by rw [List.take_zero]; rfl)
  go_wp2_with (go_at_call 27; refine (HEv.out _).mono ?_; rintro e w' ⟨rfl, rfl⟩)
  go_loopw [11, 47] (fun v i wr => ∃ k : Nat, v = .int .u32 (andG N b (xs.take k) : Int) ∧ i = .int .i64 (k : Int) ∧ k ≤ xs.length ∧ wr = w2) (fun _ i _ => xs.length - (intOf i).toNat)
  case atStart => exact ⟨0, by rw [HA0.out], rfl, Nat.zero_le _, rfl⟩
  case round =>
    obtain ⟨k, rfl, rfl, hk, rfl⟩ := hrel
    have j0 : (0 : Int) ≤ (k : Int) := by omega
    by_cases hkl : k < xs.length
    · have j1 : (k : Int) < (xs.length : Int) := by omega
      obtain ⟨bq, off, rfl, hbq, hck⟩ := HR2.out.at hkl
      unfold encG at hck
      have hx := HLt.out xs[k] (List.getElem_mem hkl)
      have h32 : xs[k] < 4294967296 := by have := HN2.out.2; omega
      have HAn : Hid (andG N b (xs.take (k + 1)) = andG N b (xs.take k) &&& orG N b xs[k]) := Lib.hid (by rw [List.take_succ_eq_append_getElem hkl, and_step])
      have HHx := Lib.hid (HHas.out xs[k] h32)
      have HOx := Lib.hid (HO.out xs[k] hx)
      have hal := and_lt N b (xs.take k)
      have hol := or_lt (N := N) (t := b) hx
      have HBit : Hid (bits .and .u32 ((andG N b (xs.take k) : Nat) : Int) ((orG N b xs[k] : Nat) : Int) = ((andG N b (xs.take k) &&& orG N b xs[k] : Nat) : Int)) := Lib.hid (u32_and_nat _ _ (by have := HN2.out.2; omega) (by have := HN2.out.2; omega))
      have HOr : Hid (orG N b xs[k] = if xs[k].testBit b = true then othG N xs[k] else xs[k]) := Lib.hid rfl
      clear hx h32 hal hol
      generalize xs[k] = y at *
      generalize orG N b y = z at *
      generalize andG N b (xs.take k) = r at *
      cases hbit : y.testBit b with
      | true =>
        rw [hbit] at HHx
        have hz := HOr.out
        rw [if_pos hbit] at hz
        subst hz
        clear HOr hbit
        go_wp2_with (first | (go_at_call 26; refine (HHx.out _).mono ?_; rintro e w' ⟨rfl, rfl⟩) | (go_at_call 28; refine (HOx.out _).mono ?_; rintro e w' ⟨rfl, rfl⟩))
        go_roundw
        case rel => exact ⟨k + 1, by rw [HAn.out, ← HBit.out], by go_num, by omega, trivial⟩
        case measure => (simp [intOf] <;> omega)
      | false =>
        rw [hbit] at HHx
        have hz := HOr.out
        rw [if_neg (by rw [hbit]; decide)] at hz
        subst hz
        clear HOr hbit
        go_wp2_with (first | (go_at_call 26; refine (HHx.out _).mono ?_; rintro e w' ⟨rfl, rfl⟩))
        go_roundw
        case rel => exact ⟨k + 1, by rw [HAn.out, ← HBit.out], by go_num, by omega, trivial⟩
        case measure => (simp [intOf] <;> omega)
    · have hke : k = xs.length := by omega
      subst hke
      have j1 : ¬ ((xs.length : Nat) : Int) < (xs.length : Int) := by omega
      have hal := and_lt N b xs
      have hg32 : andG N b xs < 4294967296 := by have := HN2.out.2; omega
      have HEnd : Hid (andG N b (xs.take xs.length) = andG N b xs) := Lib.hid (by rw [List.take_length])
      rw [HEnd.out]
      go_wp2_with fail
      refine (list_any (andG N b xs) hg32 wr HTa2.out).mono ?_
      rintro e w3 ⟨q3, c3, rfl, hr3, hq3, hb3⟩
      have HS3 := Lib.hid (HS2.out.keep hb3)
      have HD := Lib.hid (cut_done (x := x) (c := c3) HS3.out.1 hr3 (w.heap.size + 2) (by omega) HS3.out.2.2 (fun z hz => by have := hq3 z hz; have := HS2.out.2.2.lt; omega))
      obtain ⟨c0, c1, f0, f1⟩ := HS3.out.2.2
      have hlt := HS3.out.2.2.lt
      clear hb3 hr3 hq3 HS2 HTa2
      go_wp2
      obtain ⟨d0, d1, -, -⟩ := HD.out.2.1
      exact bodyPost_ret (v := .tuple #[.agg #[.int .i64 x, .slice q3 (grpL (andG N b xs)).length c3], .int .i64 0]) (by simp [results, Tryd.results7, go_sem, d0, d1]) rfl ⟨HD.out.1, q3, c3, rfl, HD.out.2.2⟩
end Go.Proofs.YtceejjgmepaonaaDoor.Bg
/- Why there is no graph of so many vertices and these edges. -/
namespace Go.Proofs.YtceejjgmepaonaaDoor
open Go.RowKit Go.ChangeShapes EdPure
/-- Why there is no graph, and where. -/
def errN (n : Int) (l : List Ed) : Int × Int := if n < 0 then (1, 0) else if 4096 < n ∨ 1048576 < l.length then (3, 0) else chkL n l 0
theorem chkL_good {n : Int} : ∀ {l : List Ed} {i : Nat}, (chkL n l i).1 = 0 → ∀ e ∈ l, chkE n e = 0
  | [], _, _, e, he => by simp at he
  | x :: r, i, h, e, he => by
    unfold chkL at h
    by_cases hx : chkE n x = 0
    · rw [if_pos hx] at h
      rcases List.mem_cons.1 he with rfl | he
      · exact hx
      · exact chkL_good h e he
    · rw [if_neg hx] at h
      exact absurd h hx
theorem chkL_zero {n : Int} {l : List Ed} (h : (chkL n l 0).1 = 0) : chkL n l 0 = (0, 0) :=
  chk_miss n l 0 fun _ hj => chkL_good h _ (List.getElem_mem hj)
end Go.Proofs.YtceejjgmepaonaaDoor
