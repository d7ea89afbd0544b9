/- Contract of New of a row of buckets, at every argument. -/
import Derived.Test.YthiabjmnbkhehaaDoorBkHigh
namespace Go.Proofs.YthiabjmnbkhehaaDoor
open Go.RowKit Go.ChangeShapes BkPure
theorem rowIs_zeros (w : World) (z : Array Value) (hz : 0 < z.size) (h : ∀ i, i < z.size → z[i]! = .int .i64 0) (n : Nat) (T : TypeId) : RowIs w.heap.size (w.alloc (.cells (madeCells z n) T)) (List.replicate n (.int .i64 0)) := by
  intro i hi
  rw [List.length_replicate] at hi
  refine ⟨?_, by rw [World.frozen?_alloc_at _ _ _ _ rfl]⟩
  rw [World.cell?_alloc_at _ _ _ _ rfl, List.getElem_replicate]
  unfold madeCells
  rw [Array.getElem?_map]
  simp [hi, h _ (Nat.mod_lt i hz)]
theorem make_lists (K : Nat) (hk : K ≤ 10000) (w : World) :
    (Instr.makeSlice 42 (.int .i64 (K : Int)) (.int .i64 (K : Int))).run Tryd.prog w = .ok (.slice (some ⟨w.heap.size, 0, none⟩) K K) (w.alloc (.cells (madeCells #[.int .i64 0, .int .i64 0] (K * 2)) 47)) := by
  obtain ⟨i, h1, h2, h3, h4⟩ := info_of (P := Tryd.prog) (T := 47) (z := .agg #[.int .i64 0, .int .i64 0]) (a := 2) (b := 16) (by kernel_rfl)
  rw [run_make w 42 47 i _ Tryd.underlying42 h1 h2 .i64 .i64 (K : Int) (K : Int) (by omega) (by omega) (by rw [h4]; omega) (by omega), h3]
  simp [Value.cells]
theorem make_seats (K : Nat) (hk : K ≤ 10000) (w : World) :
    (Instr.makeSlice 43 (.int .i64 (K : Int)) (.int .i64 (K : Int))).run Tryd.prog w = .ok (.slice (some ⟨w.heap.size, 0, none⟩) K K) (w.alloc (.cells (madeCells #[.int .i64 0, .int .i64 0, .int .i64 0] (K * 3)) 49)) := by
  obtain ⟨i, h1, h2, h3, h4⟩ := info_of (P := Tryd.prog) (T := 49) (z := .agg #[.int .i64 0, .int .i64 0, .int .i64 0]) (a := 3) (b := 24) (by kernel_rfl)
  rw [run_make w 43 49 i _ Tryd.underlying43 h1 h2 .i64 .i64 (K : Int) (K : Int) (by omega) (by omega) (by rw [h4]; omega) (by omega), h3]
  simp [Value.cells]
theorem flat2_zeros (n : Nat) : flat2 (List.replicate n (0, 0)) = List.replicate (n * 2) (.int .i64 0) := by
  induction n with
  | zero => rfl
  | succ n ih => rw [List.replicate_succ, flat2_cons, ih, show (n + 1) * 2 = n * 2 + 1 + 1 by omega, List.replicate_succ, List.replicate_succ]
theorem flat3_zeros (n : Nat) : flat3 (List.replicate n (0, 0, 0)) = List.replicate (n * 3) (.int .i64 0) := by
  induction n with
  | zero => rfl
  | succ n ih => rw [List.replicate_succ, flat3_cons, ih, show (n + 1) * 3 = n * 3 + 1 + 1 + 1 by omega, List.replicate_succ, List.replicate_succ, List.replicate_succ]
/-- The first k places hold x, the others y. -/
def fillL {α : Type} (n k : Nat) (x y : α) : List α := List.replicate k x ++ List.replicate (n - k) y
theorem fill_len {α : Type} {n k : Nat} (h : k ≤ n) (x y : α) : (fillL n k x y).length = n := by unfold fillL; simp; omega
theorem fill_set {α : Type} {n k : Nat} (h : k < n) (x y : α) : (fillL n k x y).set k x = fillL n (k + 1) x y := by
  unfold fillL
  rw [List.set_append_right _ _ (by simp), List.length_replicate, Nat.sub_self, show n - k = (n - (k + 1)) + 1 by omega, List.replicate_succ, List.set_cons_zero, List.replicate_succ']
  simp
theorem fill_full {α : Type} (n : Nat) (x y : α) : fillL n n x y = List.replicate n x := by unfold fillL; simp
theorem fill_none {α : Type} (n : Nat) (x y : α) : fillL n 0 x y = List.replicate n y := by unfold fillL; simp
def newJ (N j k : Nat) : Mb := ⟨fillL (2 * N + 1) j (-1, 0) (0, 0), fillL N k out3 (0, 0, 0), 0, 0⟩
/-- A new row, while it is made. -/
def NwSt (B : Bl) (w : World) (M : Mb) (W : World) : Prop := Below w.heap.size w W ∧ (∀ k, BQ B k → w.heap.size ≤ k) ∧ BkM B M W
section
variable {B : Bl} {w W W' : World} {M M' : Mb} {N : Nat}
theorem NwSt.drawn (h : NwSt B w M W) (n : Nat) : NwSt B w M (W.drewN n) := ⟨below_drewN h.1 n, h.2.1, h.2.2.keep (below_drewN (Below.refl _ _) n)⟩
theorem NwSt.layF (h : NwSt B w M W) {i : Nat} (hi : i < M.F.length) (c : Int × Int) : NwSt B w ⟨M.F.set i c, M.S, M.inn, M.high⟩ ((W.setCell ⟨B.gL, i * 2, none⟩ (.int .i64 c.1)).setCell ⟨B.gL, i * 2 + 1, none⟩ (.int .i64 c.2)) :=
  have hb : w.heap.size ≤ B.gL := h.2.1 _ (Or.inr (Or.inl rfl))
  ⟨(h.1.setCell (p := ⟨B.gL, i * 2, none⟩) hb _).setCell (p := ⟨B.gL, i * 2 + 1, none⟩) hb _, h.2.1, h.2.2.layF hi c⟩
theorem NwSt.layS (h : NwSt B w M W) {v : Nat} (hv : v < M.S.length) (c : Int × Int × Int) : NwSt B w ⟨M.F, M.S.set v c, M.inn, M.high⟩ (((W.setCell ⟨B.gS, v * 3, none⟩ (.int .i64 c.1)).setCell ⟨B.gS, v * 3 + 1, none⟩ (.int .i64 c.2.1)).setCell ⟨B.gS, v * 3 + 2, none⟩ (.int .i64 c.2.2)) :=
  have hb : w.heap.size ≤ B.gS := h.2.1 _ (Or.inr (Or.inr rfl))
  ⟨((h.1.setCell (p := ⟨B.gS, v * 3, none⟩) hb _).setCell (p := ⟨B.gS, v * 3 + 1, none⟩) hb _).setCell (p := ⟨B.gS, v * 3 + 2, none⟩) hb _, h.2.1, h.2.2.layS hv c⟩
end
/-- What is made so far, in whatever order. -/
def PartsB (N : Nat) (w : World) (oi oy : Option Nat) (W : World) : Prop :=
  Below w.heap.size w W ∧ (∀ x, oi = some x → w.heap.size ≤ x ∧ x < W.heap.size ∧ RowIs x W (List.replicate ((2 * N + 1) * 2) (.int .i64 0))) ∧
    (∀ x, oy = some x → w.heap.size ≤ x ∧ x < W.heap.size ∧ RowIs x W (List.replicate (N * 3) (.int .i64 0))) ∧ ∀ x, oi = some x → oy ≠ some x
section
variable {N : Nat} {w W W1 : World} {oi oy : Option Nat}
theorem PartsB.start : PartsB N w none none w := ⟨Below.refl _ _, fun x e => by simp at e, fun x e => by simp at e, fun x e => by simp at e⟩
theorem PartsB.on (h : PartsB N w oi oy W) (hb : Below W.heap.size W W1) : PartsB N w oi oy W1 := by
  obtain ⟨h1, h3, h4, h6⟩ := h
  have hs := hb.size
  exact ⟨h1.trans (hb.mono h1.size), fun x e => ⟨(h3 x e).1, by have := (h3 x e).2.1; omega, (h3 x e).2.2.on hb (h3 x e).2.1⟩, fun x e => ⟨(h4 x e).1, by have := (h4 x e).2.1; omega, (h4 x e).2.2.on hb (h4 x e).2.1⟩, h6⟩
theorem PartsB.drew (h : PartsB N w oi oy W) : PartsB N w oi oy W.drew := h.on (below_drewN (Below.refl _ _) 1)
theorem PartsB.addI {x n : Nat} {T : TypeId} (hn : n = (2 * N + 1) * 2) (hx : x = W.heap.size) (h : PartsB N w none oy W) : PartsB N w (some x) oy (W.alloc (.cells (madeCells #[.int .i64 0, .int .i64 0] n) T)) := by
  subst hx
  subst hn
  obtain ⟨h1, h3, h4, h6⟩ := h.on ((Below.refl _ W).alloc (Nat.le_refl _) (.cells (madeCells #[.int .i64 0, .int .i64 0] ((2 * N + 1) * 2)) T))
  obtain ⟨g1, -, g4, -⟩ := h
  refine ⟨h1, fun x e => ?_, h4, fun x e e2 => ?_⟩
  · cases e
    exact ⟨g1.size, by simp, rowIs_zeros W _ (by simp) (fun i hi => by match i, hi with | 0, _ => rfl | 1, _ => rfl) _ T⟩
  · cases e
    have := (g4 _ e2).2.1
    omega
theorem PartsB.addY {x n : Nat} {T : TypeId} (hn : n = N * 3) (hx : x = W.heap.size) (h : PartsB N w oi none W) : PartsB N w oi (some x) (W.alloc (.cells (madeCells #[.int .i64 0, .int .i64 0, .int .i64 0] n) T)) := by
  subst hx
  subst hn
  obtain ⟨h1, h3, h4, h6⟩ := h.on ((Below.refl _ W).alloc (Nat.le_refl _) (.cells (madeCells #[.int .i64 0, .int .i64 0, .int .i64 0] (N * 3)) T))
  obtain ⟨g1, g3, -, -⟩ := h
  refine ⟨h1, h3, fun x e => ?_, fun x e e2 => ?_⟩
  · cases e
    exact ⟨g1.size, by simp, rowIs_zeros W _ (by simp) (fun i hi => by match i, hi with | 0, _ => rfl | 1, _ => rfl | 2, _ => rfl) _ T⟩
  · cases e2
    have := (g3 _ e).2.1
    omega
theorem PartsB.done {gL gS b KL KS : Nat} {T : TypeId} (hKL : KL = 2 * N + 1) (hKS : KS = N) (hg : GlobAt w) (hb : b = W.heap.size) (h : PartsB N w (some gL) (some gS) W) :
    NwSt ⟨b, gL, gS⟩ w (newJ N 0 0) (W.alloc (.cells #[.slice (some ⟨gL, 0, none⟩) KL KL, .slice (some ⟨gS, 0, none⟩) KS KS, .int .i64 0, .int .i64 0] T)) := by
  subst hb
  subst hKL
  subst hKS
  have h' := h.on ((Below.refl _ W).alloc (Nat.le_refl _) (.cells #[.slice (some ⟨gL, 0, none⟩) (2 * KS + 1) (2 * KS + 1), .slice (some ⟨gS, 0, none⟩) KS KS, .int .i64 0, .int .i64 0] T))
  obtain ⟨g1, g3, g4, g6⟩ := h
  obtain ⟨h1, h3, h4, h6⟩ := h'
  have a2 := (g3 _ rfl).2.1
  have a3 := (g4 _ rfl).2.1
  have b2 := (g3 _ rfl).1
  have b3 := (g4 _ rfl).1
  have d3 : gL ≠ gS := fun e => g6 _ rfl (by rw [e])
  have t := FourAt.new W (.slice (some ⟨gL, 0, none⟩) (2 * KS + 1) (2 * KS + 1)) (.slice (some ⟨gS, 0, none⟩) KS KS) (.int .i64 0) (.int .i64 0) T
  have hs := g1.size
  have hq : ∀ k, BQ ⟨W.heap.size, gL, gS⟩ k → w.heap.size ≤ k := fun k e => by
    rcases e with e | e | e
    · rw [e]; exact hs
    · rw [e]; exact b2
    · rw [e]; exact b3
  refine ⟨h1, hq, ?_, ?_, ?_, ⟨(h3 _ rfl).2.1, (h4 _ rfl).2.1⟩, ⟨by show W.heap.size ≠ gL; omega, by show W.heap.size ≠ gS; omega, d3⟩, hg.keep h1, fun k hk e => by have := hg.lt k hk; have := hq k e; omega⟩
  · have e1 : (newJ KS 0 0).F.length = 2 * KS + 1 := fill_len (Nat.zero_le _) _ _
    have e2 : (newJ KS 0 0).S.length = KS := fill_len (Nat.zero_le _) _ _
    rw [e1, e2]
    exact t
  · show RowIs _ _ (flat2 (fillL _ 0 _ _))
    rw [fill_none, flat2_zeros]
    exact (h3 _ rfl).2.2
  · show RowIs _ _ (flat3 (fillL _ 0 _ _))
    rw [fill_none, flat3_zeros]
    exact (h4 _ rfl).2.2
end
set_option maxRecDepth 100000 in
set_option maxHeartbeats 4000000 in
theorem new_run (n : Int) (w : World) (hg : GlobAt w) :
    Calls Tryd.prog 6 #[.int .i64 n] w fun e w' => ∃ B : Bl, e = .returned (.pointer (some ⟨B.b, 0, none⟩)) ∧ Below w.heap.size w w' ∧ (∀ k, BQ B k → w.heap.size ≤ k) ∧ BkAt B (R9.roomN n) [] w' := by
  have HGl := Lib.hid hg
  clear hg
  obtain ⟨N, hr⟩ : ∃ r, r = R9.roomN n := ⟨_, rfl⟩
  have hr4 := R9.roomN_le n
  rw [← hr] at hr4 ⊢
  have HR := Lib.hid hr
  clear hr
  go_enter Tryd.func6, Tryd.ntmps6
  go_upto_region 1 with fail
  go_cut [0] from 6 to 8 (fun v wx => v = .int .i64 (N : Int) ∧ w = wx)
  case first =>
    by_cases a : n < 0
    · have hz : N = 0 := by rw [HR.out]; unfold R9.roomN; omega
      have a1 : max n 0 = 0 := by omega
      go_wp2_with fail
      go_meet
      case rel => exact ⟨by rw [hz]; rfl, rfl⟩
    · by_cases c : 4096 < n
      · have hz : N = 4096 := by rw [HR.out]; unfold R9.roomN; omega
        have a1 : ¬ max n 0 < 4096 := by omega
        go_wp2_with fail
        go_meet
        case rel => exact ⟨by rw [hz]; rfl, rfl⟩
      · have hz : n = (N : Int) := by rw [HR.out]; unfold R9.roomN; omega
        clear HR
        subst hz
        go_wp2_with fail
        go_meet
        case rel => exact ⟨rfl, rfl⟩
  case rest =>
    obtain ⟨rfl, rfl⟩ := hcut
    have hm2 := make_seats N (by omega)
    obtain ⟨K, hK⟩ : ∃ K, K = 2 * N + 1 := ⟨_, rfl⟩
    have hm1 := make_lists K (by omega)
    obtain ⟨q, hq⟩ : ∃ q : Int, q = 2 * (N : Int) := ⟨_, rfl⟩
    have hw1 : IntKind.i64.wrap (2 * (N : Int)) = q := by rw [IntKind.wrap_i64]; omega
    have hw2 : IntKind.i64.wrap (q + 1) = (K : Int) := by rw [IntKind.wrap_i64]; omega
    have HK := Lib.hid hK
    have HN := Lib.hid hr4
    have hK9 : K ≤ 8193 := by omega
    clear hq hK
    go_upto_region 2 with fail
    go_cut [3] from 9 to 16 (fun v wx => ∃ B : Bl, v = .pointer (some ⟨B.b, 0, none⟩) ∧ Hid (NwSt B w (newJ N 0 0) wx))
    case first =>
      go_region_with (fail)
      all_goals (go_wp2_with fail; go_meet)
      all_goals
        refine ⟨⟨_, _, _⟩, rfl, Lib.hid (NwSt.drawn (PartsB.done HK.out rfl HGl.out ?_ ?_) 1)⟩
        · simp
        · repeat (first
            | exact PartsB.start
            | refine PartsB.drew ?_
            | refine PartsB.addI (by rw [HK.out]) (by simp) ?_
            | refine PartsB.addY rfl (by simp) ?_)
    case rest =>
      obtain ⟨B, rfl, HC⟩ := hcut
      clear hm1 hm2 hw1 hw2
      obtain ⟨⟨c0, -⟩, -, ⟨b1, -⟩, -⟩ := HC.out.2.2.cells
      rw [show (newJ N 0 0).F.length = 2 * N + 1 from fill_len (Nat.zero_le _) _ _, ← HK.out] at c0
      go_wp2_with fail
      clear c0 b1
      go_loopw [22] (fun i wr => ∃ j : Nat, i = .int .i64 j ∧ j ≤ K ∧ Hid (NwSt B w (newJ N j 0) wr)) (fun i _ => K - (intOf i).toNat)
      case atStart => exact ⟨0, rfl, Nat.zero_le _, HC⟩
      case round =>
        obtain ⟨j, rfl, hj, HS⟩ := hrel
        clear HC
        have i0 : (0 : Int) ≤ (j : Int) := by omega
        by_cases hlt : j < K
        · have i1 : (j : Int) < (K : Int) := by omega
          have hlen : (newJ N j 0).F.length = K := by rw [HK.out]; exact fill_len (by have := HK.out; omega) _ _
          have H4 := Lib.hid (HS.out.drawn 1)
          go_wp2_with fail
          refine wp_region_still_tail 7 (by kernel_rfl) (by kernel_rfl) ?_
          change wpStill _ _ (World.drewN wr 1) _ _ _
          change wpStill _ _ _ (fun a' => wpList _ _ _ _ _ (World.drewN wr 1)) _ _
          generalize World.drewN wr 1 = V at *
          obtain ⟨⟨c0, -⟩, -, ⟨b1, b2, -⟩, -⟩ := H4.out.2.2.cells
          obtain ⟨⟨o0, o1⟩, -⟩ := H4.out.2.2.glob
          have l1 := H4.out.2.2.lts.1
          obtain ⟨x, hx⟩ : ∃ x, (newJ N j 0).F[j]? = some x := ⟨_, List.getElem?_eq_getElem (by rw [hlen]; exact hlt)⟩
          obtain ⟨⟨e0, e1⟩, q0, q1⟩ := H4.out.2.2.getF hx
          rw [hlen] at c0
          have HN2 : Hid (NwSt B w (newJ N (j + 1) 0) ((V.setCell ⟨B.gL, j * 2, none⟩ (.int .i64 (-1))).setCell ⟨B.gL, j * 2 + 1, none⟩ (.int .i64 0))) := Lib.hid (by
            have := H4.out.layF (i := j) (by rw [hlen]; exact hlt) (-1, 0)
            rw [show (newJ N j 0).F.set j (-1, 0) = (newJ N (j + 1) 0).F from fill_set (by rw [← HK.out]; exact hlt) _ _] at this
            exact this)
          clear H4 HS hlen hx
          simp only [List.take_succ_cons, List.take_zero, List.drop_succ_cons, List.drop_zero]
          repeat still_step
          refine wpStill_nil ?_
          go_wp2
          go_roundw
          case rel => exact ⟨j + 1, by go_num, by omega, HN2⟩
          case measure => (simp [intOf] <;> omega)
        · have hke : j = 2 * N + 1 := by have := HK.out; omega
          have HC2 : Hid (NwSt B w (newJ N (2 * N + 1) 0) wr) := Lib.hid (by rw [← hke]; exact HS.out)
          clear HS hke
          go_wp2
          go_loopw [34] (fun i wr => ∃ k : Nat, i = .int .i64 k ∧ k ≤ N ∧ Hid (NwSt B w (newJ N (2 * N + 1) k) wr)) (fun i _ => N - (intOf i).toNat)
          case atStart => exact ⟨0, rfl, Nat.zero_le _, HC2⟩
          case round =>
            obtain ⟨k, rfl, hk, HS⟩ := hrel
            clear HC2
            have k0 : (0 : Int) ≤ (k : Int) := by omega
            by_cases hlt2 : k < N
            · have k1 : (k : Int) < (N : Int) := by omega
              have hlen : (newJ N (2 * N + 1) k).S.length = N := fill_len (by omega) _ _
              have H4 := Lib.hid (HS.out.drawn 1)
              go_wp2_with fail
              refine wp_region_still_tail 7 (by kernel_rfl) (by kernel_rfl) ?_
              change wpStill _ _ (World.drewN wr 1) _ _ _
              change wpStill _ _ _ (fun a' => wpList _ _ _ _ _ (World.drewN wr 1)) _ _
              generalize World.drewN wr 1 = V at *
              obtain ⟨⟨-, c1, -⟩, -, ⟨b1, -, b3⟩, -⟩ := H4.out.2.2.cells
              obtain ⟨-, o0, o1, o2⟩ := H4.out.2.2.glob
              have l1 := H4.out.2.2.lts.2
              obtain ⟨x, hx⟩ : ∃ x, (newJ N (2 * N + 1) k).S[k]? = some x := ⟨_, List.getElem?_eq_getElem (by rw [hlen]; exact hlt2)⟩
              obtain ⟨⟨e0, e1, e2⟩, q0, q1, q2⟩ := H4.out.2.2.getS hx
              rw [hlen] at c1
              have HN2 : Hid (NwSt B w (newJ N (2 * N + 1) (k + 1)) (((V.setCell ⟨B.gS, k * 3, none⟩ (.int .i64 (-1))).setCell ⟨B.gS, k * 3 + 1, none⟩ (.int .i64 (-1))).setCell ⟨B.gS, k * 3 + 2, none⟩ (.int .i64 (-1)))) := Lib.hid (by
                have := H4.out.layS (v := k) (by rw [hlen]; exact hlt2) out3
                rw [show (newJ N (2 * N + 1) k).S.set k out3 = (newJ N (2 * N + 1) (k + 1)).S from fill_set hlt2 _ _] at this
                exact this)
              clear H4 HS hlen hx
              simp only [List.take_succ_cons, List.take_zero, List.drop_succ_cons, List.drop_zero]
              repeat still_step
              refine wpStill_nil ?_
              go_wp2
              go_roundw
              case rel => exact ⟨k + 1, by go_num, by omega, HN2⟩
              case measure => (simp [intOf] <;> omega)
            · have hke : k = N := by omega
              have HF : Hid (Below w.heap.size w wr ∧ (∀ k, BQ B k → w.heap.size ≤ k) ∧ BkAt B N [] wr) := Lib.hid (by
                obtain ⟨g1, g2, g3⟩ := HS.out
                refine ⟨g1, g2, HN.out, _, g3, ?_⟩
                have := good_new N
                rw [hke]
                unfold newM at this
                unfold newJ
                rw [fill_full, fill_full]
                exact this)
              clear HS hke
              go_wp2
              go_ret
              exact ⟨B, rfl, HF.out⟩
end Go.Proofs.YthiabjmnbkhehaaDoor
