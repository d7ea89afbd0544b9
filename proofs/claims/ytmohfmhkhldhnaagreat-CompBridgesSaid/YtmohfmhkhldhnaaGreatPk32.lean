/- Texts that the laws of this seat stand on, part 32. -/
import Derived.Test.YtmohfmhkhldhnaaGreatPk31
import Derived.Test.YtmohfmhkhldhnaaGreatPk29
import Derived.Test.YtmohfmhkhldhnaaGreatPk13
import Derived.Laws.IdiomCopy
/- Contracts of slices.Repeat of one number, and of newWalk: a walk that has reached nothing. -/
namespace Go.Proofs.YtmohfmhkhldhnaaGreat.Cm
open Go.RowKit Go.ChangeShapes EdPure NtPure DsuPure CmPure
/-- The first n places have z. -/
def rpL (N n : Nat) (z : Int) : List Value := (List.range N).map fun i => if i < n then .int .i64 z else .int .i64 0
theorem rpL_len (N n : Nat) (z : Int) : (rpL N n z).length = N := by unfold rpL; simp
theorem rpL_get {N i : Nat} (n : Nat) (z : Int) (h : i < N) : (rpL N n z)[i]? = some (if i < n then .int .i64 z else .int .i64 0) := by
  unfold rpL; rw [List.getElem?_map, List.getElem?_range h]; rfl
theorem rpL_nil (N : Nat) (z : Int) : rpL N 0 z = List.replicate N (.int .i64 0) := by
  refine List.ext_getElem? fun i => ?_
  by_cases h : i < N
  · rw [rpL_get 0 z h, if_neg (by omega)]; simp [h]
  · rw [List.getElem?_eq_none (by rw [rpL_len]; omega), List.getElem?_eq_none (by simp; omega)]
theorem rpL_all (N : Nat) (z : Int) : rpL N N z = List.replicate N (.int .i64 z) := by
  refine List.ext_getElem? fun i => ?_
  by_cases h : i < N
  · rw [rpL_get N z h, if_pos h]; simp [h]
  · rw [List.getElem?_eq_none (by rw [rpL_len]; omega), List.getElem?_eq_none (by simp; omega)]
theorem rpL_at {N n i : Nat} {z : Int} (h : i < n) (hN : i < N) : (rpL N n z)[i]? = some (.int .i64 z) := by
  rw [rpL_get n z hN, if_pos h]
theorem set_grown (b : Nat) : ∀ (vs : List Value) (o : Nat) (w : World), w.grownBy (w.setCells b o vs) (some b)
  | [], _, w => ⟨rfl, rfl, rfl, Nat.le_refl _, fun _ _ _ => rfl⟩
  | v :: r, o, w => by
    have h := set_grown b r (o + 1) (w.setCell ⟨b, o, none⟩ v)
    exact ⟨h.os, h.tape, h.output, Nat.le_trans (by simp) h.size, fun k hk e => (h.block k (by simpa using hk) e).trans (cell_other (fun e2 => e (by rw [e2])))⟩
def RpSt (w : World) (g N n : Nat) (z : Int) (W : World) : Prop := Below w.heap.size w W ∧ w.heap.size ≤ g ∧ g < W.heap.size ∧ RowIs g W (rpL N n z)
theorem RpSt.drawn {w : World} {g N n : Nat} {z : Int} {W : World} (h : RpSt w g N n z W) (k : Nat) : RpSt w g N n z (W.drewN k) := ⟨below_drewN h.1 k, h.2⟩
theorem RpSt.put {w : World} {g N n m : Nat} {z : Int} {W : World} (h : RpSt w g N n z W) (hm : n + m ≤ N) : RpSt w g N (n + m) z (W.setCells g n (List.replicate m (.int .i64 z))) := by
  obtain ⟨h1, h2, h3, h4⟩ := h
  have hg := set_grown g (List.replicate m (.int .i64 z)) n W
  refine ⟨h1.grown hg h1.size (fun k hk => by cases hk; exact h2), h2, Nat.lt_of_lt_of_le h3 hg.size, fun i hi => ?_⟩
  rw [rpL_len] at hi
  have hi' : i < (rpL N n z).length := by rw [rpL_len]; exact hi
  refine ⟨?_, by rw [World.frozen?_setCells]; exact (h4 i hi').2⟩
  by_cases hin : n ≤ i ∧ i < n + m
  · have := World.cell?_setCells_in g (List.replicate m (.int .i64 z)) n W (fun j hj => by
      have hj' : j < m := by simpa using hj
      rw [(h4 (n + j) (by rw [rpL_len]; omega)).1]; rfl) (i - n) (by simp; omega)
    rw [show n + (i - n) = i by omega] at this
    rw [this, (List.getElem?_eq_some_iff.1 (rpL_get (n + m) z hi)).2, if_pos hin.2]
    simp
  · rw [World.cell?_setCells_out g _ n W ⟨g, i, none⟩ (fun _ _ => by simp; omega), (h4 i hi').1]
    rw [(List.getElem?_eq_some_iff.1 (rpL_get (n + m) z hi)).2, (List.getElem?_eq_some_iff.1 (rpL_get n z hi)).2]
    by_cases e : i < n
    · rw [if_pos e, if_pos (by omega)]
    · rw [if_neg e, if_neg (by omega)]
/-- What is read of the first part, and where the next may be put. -/
theorem RpSt.copy {w : World} {g N n m : Nat} {z : Int} {W : World} (h : RpSt w g N n z W) (hm : n + m ≤ N) (hmn : m ≤ n) (hmin : m = Nat.min n (N - n)) (ty : TypeId) :
    (Builtin.copy_ #[32, 32] ty #[.slice (some ⟨g, n, none⟩) (N - n) (N - n), .slice (some ⟨g, 0, none⟩) n N]).run Tryz.prog W = .ok (.int .i64 (m : Int)) (W.setCells g n (List.replicate m (.int .i64 z))) := by
  have := run_copy_cells (P := Tryz.prog) W 32 32 ty 3 g n (N - n) (N - n) ⟨g, 0, none⟩ n N (List.replicate m (.int .i64 z)) Tryz.underlying32 (by kernel_rfl) (by simpa using hmin)
    (fun j v hv => by
      obtain ⟨hj, rfl⟩ := List.getElem?_eq_some_iff.1 hv
      simp at hj
      rw [addr_add, Nat.zero_add, (h.2.2.2 j (by rw [rpL_len]; omega)).1, ← List.getElem?_eq_getElem, rpL_at (by omega) (by omega)]
      simp)
    (fun j hj => by
      simp at hj
      rw [(h.2.2.2 (n + j) (by rw [rpL_len]; omega)).1]; rfl)
    (fun j hj => by
      simp at hj
      exact (h.2.2.2 (n + j) (by rw [rpL_len]; omega)).2)
    (fun v hv => by
      obtain ⟨-, rfl⟩ := List.mem_replicate.1 hv
      rfl)
  rw [List.length_replicate] at this
  exact this
/-- The first number is put. -/
theorem RpSt.first {w : World} {g N : Nat} {z : Int} {W : World} {b c : Nat} (h : RpSt w g N 0 z W) (hb : W.cell? ⟨b, 0, none⟩ = some (.int .i64 z)) (ty : TypeId) :
    ∃ m, m ≤ N ∧ (0 < N → 0 < m) ∧ (Builtin.copy_ #[32, 32] ty #[.slice (some ⟨g, 0, none⟩) N N, .slice (some ⟨b, 0, none⟩) 1 c]).run Tryz.prog W = .ok (.int .i64 (m : Int)) (W.setCells g 0 (List.replicate m (.int .i64 z))) ∧ RpSt w g N m z (W.setCells g 0 (List.replicate m (.int .i64 z))) := by
  obtain ⟨m, hm, hm1, hmN, hm0⟩ : ∃ m, m = Nat.min 1 N ∧ m ≤ 1 ∧ m ≤ N ∧ (0 < N → 0 < m) := ⟨_, rfl, Nat.min_le_left _ _, Nat.min_le_right _ _, fun h0 => Nat.lt_min.2 ⟨Nat.one_pos, h0⟩⟩
  refine ⟨m, hmN, hm0, ?_, ?_⟩
  · have := run_copy_cells (P := Tryz.prog) W 32 32 ty 3 g 0 N N ⟨b, 0, none⟩ 1 c (List.replicate m (.int .i64 z)) Tryz.underlying32 (by kernel_rfl) (by simpa using hm)
      (fun j v hv => by
        obtain ⟨hj, rfl⟩ := List.getElem?_eq_some_iff.1 hv
        rw [List.length_replicate] at hj
        have hj0 : j = 0 := by omega
        subst hj0
        rw [addr_add]
        simpa using hb)
      (fun j hj => by
        rw [List.length_replicate] at hj
        rw [Nat.zero_add, (h.2.2.2 j (by rw [rpL_len]; omega)).1]; rfl)
      (fun j hj => by
        rw [List.length_replicate] at hj
        rw [Nat.zero_add]
        exact (h.2.2.2 j (by rw [rpL_len]; omega)).2)
      (fun v hv => by
        obtain ⟨-, rfl⟩ := List.mem_replicate.1 hv
        rfl)
    rw [List.length_replicate] at this
    exact this
  · have := h.put (m := m) (by omega)
    rwa [Nat.zero_add] at this
def RepOut (N : Nat) (z : Int) (w : World) (e : Ending) (w' : World) : Prop := ∃ g, e = .returned (.slice (some ⟨g, 0, none⟩) N N) ∧ Below w.heap.size w w' ∧ w.heap.size ≤ g ∧ g < w'.heap.size ∧ RowIs g w' (List.replicate N (.int .i64 z))
set_option maxRecDepth 100000 in
set_option maxHeartbeats 4000000 in
theorem repeat_any (b : Nat) (c N : Nat) (z : Int) (hN : N ≤ 4096) (w : World) (h : w.cell? ⟨b, 0, none⟩ = some (.int .i64 z)) :
    Calls Tryz.prog 54 #[.slice (some ⟨b, 0, none⟩) 1 c, .int .i64 (N : Int)] w fun e w' => RepOut N z w e w' := by
  have i1 : ¬ (N : Int) < 0 := by omega
  have hmk := makeRow (P := Tryz.prog) (T := 32) (E := 3) (z := .int .i64 0) (c := 8) Tryz.underlying32 (by kernel_rfl) (by decide) rfl N (by omega) w
  have hS : RpSt w w.heap.size N 0 z (w.alloc (.cells (madeCells #[.int .i64 0] N) 3)) := ⟨(Below.refl _ _).alloc (Nat.le_refl _) _, Nat.le_refl _, by simp, by rw [rpL_nil]; exact rowIs_made w (.int .i64 0) N 3⟩
  have hmul : ∀ W, Calls Tryz.prog 73 #[.int .u64 1, .int .u64 (N : Int)] W fun e w' => e = .returned (.tuple #[.int .u64 0, .int .u64 (N : Int)]) ∧ W = w' := by
    intro W
    have h := Tryz.bits_Mul64 1 N (by omega) (by omega) W
    rw [show 1 * N / 18446744073709551616 = 0 by omega, show 1 * N % 18446744073709551616 = N by omega] at h
    have H := Lib.hid h
    clear h
    go_enter Tryz.func73, Tryz.ntmps73
    go_wp2_with (go_at_call 100; refine H.out.mono ?_; rintro e w' ⟨rfl, rfl⟩)
    go_ret2
    exact ⟨rfl, rfl⟩
  have HM := Lib.hid hmul
  have HS := Lib.hid hS
  clear hmul hS
  go_enter Tryz.func54, Tryz.ntmps54
  go_wp2_with (go_at_call 73; refine (HM.out _).mono ?_; rintro e w' ⟨rfl, rfl⟩)
  go_upto_region 7 with fail
  have hbc : (w.alloc (.cells (madeCells #[.int .i64 0] N) 3)).cell? ⟨b, 0, none⟩ = some (.int .i64 z) := (((Below.refl w.heap.size w).alloc (Nat.le_refl _) _).cell (by have := World.block_lt_of_cell? w _ h; exact this)).trans h
  clear hmk h
  generalize hg : w.heap.size = g at HS
  generalize w.alloc (.cells (madeCells #[.int .i64 0] N) 3) = W1 at *
  obtain ⟨m, hmN, hm0, hrun, hst⟩ := HS.out.first (c := c) hbc 3
  have H1 := Lib.hid hst
  have HG := Lib.hid hg
  clear hst HS hbc hg HM
  have hcp : ∀ ty, (Builtin.copy_ #[32, 32] ty #[.slice (some ⟨g, 0, none⟩) N N, .slice (some ⟨b, 0, none⟩) 1 c]).run Tryz.prog W1 = .ok (.int .i64 (m : Int)) (W1.setCells g 0 (List.replicate m (.int .i64 z))) := fun _ => hrun
  clear hrun
  go_wp2_with fail
  rw [hcp]
  go_wp2_with fail
  clear hcp
  generalize W1.setCells g 0 (List.replicate m (.int .i64 z)) = W2 at *
  go_loopw [8] (fun i wr => ∃ n : Nat, i = .int .i64 n ∧ n ≤ N ∧ (0 < N → 0 < n) ∧ Hid (RpSt w g N n z wr)) (fun i _ => N - (intOf i).toNat)
  case atStart => exact ⟨m, rfl, hmN, hm0, H1⟩
  case round =>
    clear H1 hmN hm0
    obtain ⟨n, rfl, hn, hn0, HR⟩ := hrel
    by_cases hlt : n < N
    · have i2 : (n : Int) < (N : Int) := by omega
      have i3 : (0 : Int) ≤ (n : Int) := by omega
      obtain ⟨k, hk, hk0, hkn, hkN⟩ : ∃ k, k = Nat.min n (N - n) ∧ 0 < k ∧ k ≤ n ∧ k ≤ N - n := ⟨_, rfl, Nat.lt_min.2 ⟨hn0 (by omega), by omega⟩, Nat.min_le_left _ _, Nat.min_le_right _ _⟩
      have hcp := fun ty => RpSt.copy (W := wr.drew) (HR.out.drawn 1) (m := k) (by omega) hkn hk ty
      have HR2 := Lib.hid (RpSt.put (W := wr.drew) (HR.out.drawn 1) (m := k) (by omega))
      have hwr : IntKind.i64.wrap ((n : Int) + (k : Int)) = (n : Int) + (k : Int) := by rw [IntKind.wrap_i64]; omega
      clear hk
      go_wp2_with fail
      go_region_with fail
      all_goals go_roundw
      all_goals first
        | exact ⟨.int .i64 ((n : Int) + (k : Int)), _, _, _, _, _, _, _, _, _, _, _, _, _, ⟨n + k, by go_num, by omega, fun _ => by omega, HR2⟩, rfl⟩
        | (show N - (intOf (.int .i64 ((n : Int) + (k : Int)))).toNat < _; simp [intOf]; omega)
    · have hne : n = N := by omega
      have i2 : ¬ (n : Int) < (N : Int) := by omega
      subst hne
      have HE : Hid (RepOut n z w (.returned (.slice (some ⟨g, 0, none⟩) n n)) wr) := Lib.hid ⟨g, rfl, HR.out.1, HR.out.2.1, HR.out.2.2.1, by rw [← rpL_all]; exact HR.out.2.2.2⟩
      go_wp2
      go_ret
      exact HE.out
def NewWOut (p : Option Addr) (N : Nat) (w : World) (e : Ending) (w' : World) : Prop := ∃ b g, e = .returned (.pointer (some ⟨b, 0, none⟩)) ∧ WkX b g p (.slice none 0 0) (.slice none 0 0) [] [] (List.replicate N (-1)) w' ∧ Below w.heap.size w w' ∧ w.heap.size ≤ g
theorem wk_new {p : Option Addr} {N g : Nat} {w W : World} (hb : Below w.heap.size w W) (hg : w.heap.size ≤ g) (hl : g < W.heap.size) (hr : RowIs g W (List.replicate N (.int .i64 (-1)))) (T : TypeId) :
    NewWOut p N w (.returned (.pointer (some ⟨W.heap.size, 0, none⟩))) (W.alloc (.cells #[.pointer p, .slice none 0 0, .slice none 0 0, .slice (some ⟨g, 0, none⟩) N N] T)) := by
  have hA : Below W.heap.size W (W.alloc (.cells #[.pointer p, .slice none 0 0, .slice none 0 0, .slice (some ⟨g, 0, none⟩) N N] T)) := (Below.refl _ _).alloc (Nat.le_refl _) _
  refine ⟨W.heap.size, g, rfl, ⟨?_, ⟨hl, ?_⟩, ⟨World.ownsRow_nil _ _ _ _, World.ownsRow_nil _ _ _ _⟩, Or.inl rfl⟩, hb.trans (hA.mono hb.size), hg⟩
  · rw [List.length_replicate]; exact FourAt.new W _ _ _ _ T
  · rw [List.map_replicate]; exact hr.on hA hl
set_option maxRecDepth 100000 in
theorem newWalk_any (p : Option Addr) (N : Nat) (M : List Ed) (hN : N ≤ 4096) (w : World) (h : NetAt p N M w) :
    Calls Tryz.prog 30 #[.pointer p] w fun e w' => NewWOut p N w e w' := by
  have hA : Below w.heap.size w (w.alloc (.cells #[.int .i64 (-1)] 3)) := (Below.refl _ _).alloc (Nat.le_refl _) _
  have HN := Lib.hid (h.over hA)
  have HB := Lib.hid hA
  have HC : Hid (w.heap.size < (w.alloc (.cells #[.int .i64 (-1)] 3)).heap.size ∧ (w.alloc (.cells #[.int .i64 (-1)] 3)).cell? ⟨w.heap.size, 0, none⟩ = some (.int .i64 (-1))) := Lib.hid ⟨by simp, by simp⟩
  clear h hA
  go_enter Tryz.func30, Tryz.ntmps30
  go_wp2_with fail
  generalize hg0 : w.heap.size = B0 at HC
  generalize w.alloc (.cells #[.int .i64 (-1)] 3) = W0 at *
  refine (num_any p N M W0 HN.out).mono ?_
  rintro e w1 ⟨rfl, hb1⟩
  have HB1 := Lib.hid (HB.out.trans (hb1.mono HB.out.size))
  have HC1 := Lib.hid ((hb1.cell (p := ⟨B0, 0, none⟩) HC.out.1).trans HC.out.2)
  clear hb1 HN HB HC
  go_wp2_with fail
  refine (repeat_any B0 1 N (-1) hN w1 HC1.out).mono ?_
  rintro e w2 ⟨g, rfl, hb2, hg, hl, hr⟩
  have HE := Lib.hid (wk_new (p := p) (HB1.out.trans (hb2.mono HB1.out.size)) (Nat.le_trans HB1.out.size hg) hl hr 75)
  clear hb2 hg hl hr
  go_wp2
  go_ret
  exact HE.out
end Go.Proofs.YtmohfmhkhldhnaaGreat.Cm
/- Contract of walkAll: a walk that has reached all vertices. -/
namespace Go.Proofs.YtmohfmhkhldhnaaGreat.Cm
open Go.RowKit Go.ChangeShapes EdPure NtPure DsuPure CmPure
/-- A walk whose first k vertices are reached. -/
def AlSt (b g : Nat) (p : Option Addr) (w : World) (N : Nat) (M : List Ed) (k : Nat) (W : World) : Prop :=
  ∃ rv uv R U P, WkX b g p rv uv R U P W ∧ (Below w.heap.size w W ∧ w.heap.size ≤ g) ∧ Wk N M R U P ∧ Cl M R R.length ∧ ∀ x, x < k → x ∈ R
/-- All are reached. -/
def AllOut (p : Option Addr) (w : World) (N : Nat) (M : List Ed) (e : Ending) (W : World) : Prop :=
  ∃ b g rv uv R U P, e = .returned (.pointer (some ⟨b, 0, none⟩)) ∧ WkX b g p rv uv R U P W ∧ Below w.heap.size w W ∧ Wk N M R U P ∧ ∀ x, x < N → x ∈ R
theorem wkO_low {b g : Nat} {p : Option Addr} {rv uv : Value} {R : List Nat} {U P : List Int} {w : World} (h : WkX b g p rv uv R U P w) : ∀ k, WkO b g rv uv k → g ≤ k := fun _ hk => (h.lt hk).1
theorem wk_over {b g B : Nat} {p : Option Addr} {rv uv : Value} {R : List Nat} {U P : List Int} {w0 w W : World} (h : WkX b g p rv uv R U P w) (hb : Below w0.heap.size w0 w) (hB : B = w0.heap.size) (hg : w0.heap.size ≤ g) (ht : Turn (WkO b g rv uv) w W) : Below B w0 W := by
  subst hB
  exact hb.trans (ht.below hb.size fun k hk => Nat.le_trans hg (wkO_low h k hk))
set_option maxRecDepth 100000 in
set_option maxHeartbeats 2000000 in
theorem walkAll_any (p : Option Addr) (N : Nat) (M : List Ed) (hN : N ≤ 4096) (hG : GoodN N M) (hM : M.length ≤ 1048576) (w : World) (h : NetAt p N M w) :
    Calls Tryz.prog 34 #[.pointer p] w fun e w' => AllOut p w N M e w' := by
  have HN := Lib.hid h
  have HG := Lib.hid hG
  clear h hG
  go_enter Tryz.func34, Tryz.ntmps34
  go_wp2_with fail
  refine (newWalk_any p N M hN w HN.out).mono ?_
  rintro e w1 ⟨b, g, rfl, h1, h2, h3⟩
  obtain ⟨⟨-, -, -, c3⟩, -⟩ := h1.1.cells
  rw [List.length_replicate] at c3
  have hb := h1.1.lt
  have H1 : Hid (AlSt b g p w N M 0 w1) := Lib.hid ⟨_, _, _, _, _, h1, ⟨h2, h3⟩, Wk.start N M, fun i x hi => by simp at hi, fun x hx => by omega⟩
  clear h1 h2 h3
  go_wp2_with fail
  clear c3 hb
  go_loopw [12] (fun i wr => ∃ k : Nat, i = .int .i64 k ∧ k ≤ N ∧ Hid (AlSt b g p w N M k wr)) (fun i _ => N - (intOf i).toNat)
  case atStart => exact ⟨0, rfl, Nat.zero_le _, H1⟩
  case round =>
    clear H1
    obtain ⟨k, rfl, hk, HK⟩ := hrel
    by_cases hlt : k < N
    · have i2 : (k : Int) < (N : Int) := by omega
      have HF : Hid (Calls Tryz.prog 31 #[.pointer (some ⟨b, 0, none⟩), .int .i64 (k : Int)] wr fun e w' => e = .returned (.tuple #[]) ∧ AlSt b g p w N M (k + 1) w') := by
        obtain ⟨rv, uv, R, U, P, h1, ⟨h2, h3⟩, h4, h5, h6⟩ := HK.out
        refine Lib.hid ((from_any b g p rv uv R U P N M k hlt hN HG.out hM wr h1 h4 h5 (fun W ht => HN.out.over (wk_over h1 h2 rfl h3 ht))).mono ?_)
        rintro e w' ⟨rfl, R', U', P', ⟨rv', uv', k1, k2, k3⟩, k4, ⟨S, rfl⟩, k5, k6, -⟩
        refine ⟨rfl, rv', uv', _, U', P', k1, ⟨wk_over h1 h2 rfl h3 k2, h3⟩, k4, k5, fun x hx => ?_⟩
        by_cases e : x = k
        · rw [e]; exact k6
        · exact List.mem_append_left _ (h6 x (by omega))
      clear HK
      go_wp2_with fail
      refine HF.out.mono ?_
      rintro e w2 ⟨rfl, h2⟩
      have H2 := Lib.hid h2
      clear h2 HF
      go_wp2
      go_roundw
      case rel => exact ⟨k + 1, by go_num, hlt, H2⟩
      case measure => (simp [intOf]; omega)
    · have i2 : ¬ (k : Int) < (N : Int) := by omega
      have hkN : k = N := by omega
      have HE : Hid (AllOut p w N M (.returned (.pointer (some ⟨b, 0, none⟩))) wr) := by
        obtain ⟨rv, uv, R, U, P, h1, ⟨h2, h3⟩, h4, h5, h6⟩ := HK.out
        exact Lib.hid ⟨b, g, rv, uv, R, U, P, rfl, h1, h2, h4, fun x hx => h6 x (by omega)⟩
      clear hkN
      go_wp2
      go_ret
      exact HE.out
end Go.Proofs.YtmohfmhkhldhnaaGreat.Cm
