/- The document's answers of layer 10: new classes, and classes behind a join. -/
import Derived.Test.YtmohfmhkhldhnaaGreatPk19
namespace Go.Proofs.YtmohfmhkhldhnaaGreat.Ds
open Go.RowKit Go.ChangeShapes Go.Maps DsuPure
/-- A list lies in a block that is there, and in none below M. -/
def Off (q : Option Addr) (M : Nat) (W : World) : Prop := ∀ z, q = some z → M ≤ z.block ∧ z.block < W.heap.size
/-- A variable of one cell. -/
def OneAt (b : Nat) (W : World) (v : Value) : Prop := W.cell? ⟨b, 0, none⟩ = some v ∧ W.frozen? ⟨b, 0, none⟩ = false
theorem OneAt.lt {b : Nat} {W : World} {v : Value} (h : OneAt b W v) : b < W.heap.size := World.block_lt_of_cell? W _ h.1
theorem OneAt.keep {b : Nat} {W W' : World} {v : Value} (h : OneAt b W v) (hb : Below W.heap.size W W') : OneAt b W' v :=
  ⟨(hb.cell (p := ⟨b, 0, none⟩) h.lt).trans h.1, (hb.frozen (p := ⟨b, 0, none⟩) h.lt).trans h.2⟩
theorem OneAt.past {b : Nat} {W W' : World} {v : Value} {row : Option Nat} (h : OneAt b W v) (hg : W.grownBy W' row) (hr : some b ≠ row) : OneAt b W' v := by
  have hk := hg.block b h.lt hr
  exact ⟨(World.cell?_of_block hk).trans h.1, (World.frozen?_of_block hk).trans h.2⟩
theorem OneAt.new (w : World) (v : Value) (T : TypeId) : OneAt w.heap.size (w.alloc (.cells #[v] T)) v := ⟨by simp, by simp⟩
theorem OneAt.set {b : Nat} {W : World} {v : Value} (h : OneAt b W v) (u : Value) : OneAt b (W.setCell ⟨b, 0, none⟩ u) u :=
  ⟨World.cell?_setCell_same _ _ _ h.1, by simpa using h.2⟩
theorem cell_grown (W : World) (b i : Nat) (v : Value) : W.grownBy (W.setCell ⟨b, i, none⟩ v) (some b) :=
  ⟨rfl, rfl, rfl, by simp, fun k _ hk => Below.heap_setCell _ _ _ k (fun e => hk (by rw [e]))⟩
/-- A list that is gathered in the variable N; R is the result's. -/
def GatAt (w0 : World) (R N B : Nat) (v : Value) (xs : List Int) (W : World) : Prop :=
  Below w0.heap.size w0 W ∧ OneAt R W (.slice none 0 0) ∧ OneAt N W v ∧ R ≠ N ∧ (w0.heap.size ≤ R ∧ R < B) ∧ (w0.heap.size ≤ N ∧ N < B) ∧ B ≤ W.heap.size ∧ W.ownsRow B 3 1 v xs.length (xs.map encZ)
theorem GatAt.keep {w0 W W' : World} {R N B : Nat} {v : Value} {xs : List Int} (h : GatAt w0 R N B v xs W) (hb : Below W.heap.size W W') : GatAt w0 R N B v xs W' := by
  obtain ⟨a1, a2, a3, a4, a5, a6, a7, a8⟩ := h
  exact ⟨a1.trans (hb.mono a1.size), a2.keep hb, a3.keep hb, a4, a5, a6, Nat.le_trans a7 hb.size, owns_below a8 hb⟩
theorem GatAt.step {w0 W w2 : World} {R N B : Nat} {v v' : Value} {xs : List Int} {x : Int} {o : Obj} (h : GatAt w0 R N B v xs W) (hown : w2.ownsRow B 3 1 v' (xs.length + 1) (xs.map encZ ++ [encZ x])) (hg : (W.alloc o).grownBy w2 v.ownBlock) :
    GatAt w0 R N B v' (xs ++ [x]) (w2.setCell ⟨N, 0, none⟩ v') := by
  have hk := h.keep ((Below.refl _ W).alloc (Nat.le_refl _) o)
  obtain ⟨a1, a2, a3, a4, a5, a6, a7, a8⟩ := hk
  have hv := fun k e => (a8.lt k e).1
  have b1 : Below w0.heap.size w0 w2 := a1.grown hg a1.size (fun k e => by have := hv k e; omega)
  have hs := cell_grown w2 N 0 v'
  have sz := hg.size
  refine ⟨b1.grown hs b1.size (fun k e => by cases e; exact a6.1), (a2.past hg (fun e => by have := hv R e.symm; omega)).past hs (fun e => a4 (Option.some.inj e)), (a3.past hg (fun e => by have := hv N e.symm; omega)).set v', a4, a5, a6, by simp; omega, ?_⟩
  rw [List.length_append, List.map_append]
  exact owns_setCell hown (p := ⟨N, 0, none⟩) a6.2 v'
/-- What the append's cell holds. -/
theorem GatAt.var {w0 W w2 : World} {R N B : Nat} {v : Value} {xs : List Int} {o : Obj} (h : GatAt w0 R N B v xs W) (hg : (W.alloc o).grownBy w2 v.ownBlock) : OneAt N w2 v := by
  have hk := h.keep ((Below.refl _ W).alloc (Nat.le_refl _) o)
  obtain ⟨a1, a2, a3, a4, a5, a6, a7, a8⟩ := hk
  exact a3.past hg (fun e => by have := (a8.lt N e.symm).1; omega)
theorem GatAt.reads {w0 W : World} {R N B : Nat} {v : Value} {xs : List Int} (h : GatAt w0 R N B v xs W) : ∃ q c, v = .slice q xs.length c ∧ ReadsL encZ W.heap.size W q xs := by
  obtain ⟨q, c, e, hr, -⟩ := owns_readsL rfl h.2.2.2.2.2.2.2
  exact ⟨q, c, e, hr⟩
/-- The list is laid into the result. -/
theorem GatAt.end {w0 W : World} {R N B : Nat} {v : Value} {xs : List Int} (h : GatAt w0 R N B v xs W) : ∃ q c, v = .slice q xs.length c ∧
    ∀ u, Below w0.heap.size w0 (W.setCell ⟨R, 0, none⟩ u) ∧ ReadsL encZ (W.setCell ⟨R, 0, none⟩ u).heap.size (W.setCell ⟨R, 0, none⟩ u) q xs ∧ (W.setCell ⟨R, 0, none⟩ u).cell? ⟨R, 0, none⟩ = some u ∧ Off q w0.heap.size (W.setCell ⟨R, 0, none⟩ u) := by
  obtain ⟨a1, a2, a3, a4, a5, a6, a7, a8⟩ := h
  obtain ⟨q, c, e, -, -⟩ := owns_readsL rfl a8
  refine ⟨q, c, e, fun u => ⟨a1.grown (cell_grown W R 0 u) a1.size (fun k e => by cases e; exact a5.1), ?_, (a2.set u).1, fun z hz => by have := a8.lt z.block (by rw [e, hz]; rfl); simp; omega⟩⟩
  obtain ⟨q', c', e', hr, -⟩ := owns_readsL rfl (owns_setCell a8 (p := ⟨R, 0, none⟩) a5.2 u)
  rw [e] at e'
  cases e'
  exact hr
theorem namesL_succ (k : Nat) (p : Nat → Nat) : namesL (k + 1) p = namesL k p ++ [(p k : Int)] := by
  unfold namesL
  rw [List.range_succ, List.map_append]
  rfl
theorem roomRef_any (n : Int) (w : World) :
    Calls Tryz.prog 64 #[.int .i64 n] w fun e w' => e = .returned (.int .i64 (roomN n : Int)) ∧ w = w' := by
  have HR := Lib.hid (show (roomN n : Int) = max 0 (min n 4096) by unfold roomN; omega)
  by_cases a : n < 0
  · have a2 : min n 4096 = n := by omega
    have HR2 : Hid ((roomN n : Int) = 0) := Lib.hid (by unfold roomN; omega)
    go_enter Tryz.func64, Tryz.ntmps64
    go_wp2
    go_ret
    exact ⟨ret_i (by rw [HR2.out]), rfl⟩
  · by_cases b : n < 4096
    · have HR2 : Hid ((roomN n : Int) = n) := Lib.hid (by unfold roomN; omega)
      go_enter Tryz.func64, Tryz.ntmps64
      go_wp2
      all_goals (go_ret; exact ⟨ret_i (by first | exact HR2.out.symm | (rw [HR2.out]; omega)), rfl⟩)
    · have HR2 : Hid ((roomN n : Int) = 4096) := Lib.hid (by unfold roomN; omega)
      go_enter Tryz.func64, Tryz.ntmps64
      go_wp2
      all_goals (go_ret; exact ⟨ret_i (by first | exact HR2.out.symm | (rw [HR2.out]; omega)), rfl⟩)
theorem gat_start (w : World) (T T' : TypeId) : GatAt w w.heap.size (w.heap.size + 1) (w.heap.size + 2) (.slice none 0 0) [] ((w.alloc (.cells #[.slice none 0 0] T)).alloc (.cells #[.slice none 0 0] T')) := by
  have h1 := OneAt.new w (.slice none 0 0) T
  have b1 := (Below.refl w.heap.size w).alloc (Nat.le_refl _) (.cells #[.slice none 0 0] T)
  have h2 := OneAt.new (w.alloc (.cells #[.slice none 0 0] T)) (.slice none 0 0) T'
  have b2 := (Below.refl _ (w.alloc (.cells #[.slice none 0 0] T))).alloc (Nat.le_refl _) (.cells #[.slice none 0 0] T')
  rw [World.size_alloc] at h2
  exact ⟨b1.trans (b2.mono b1.size), h1.keep b2, h2, by omega, by omega, by omega, by simp, World.ownsRow_nil _ _ _ _⟩
set_option maxRecDepth 100000 in
set_option maxHeartbeats 1000000 in
theorem newRef_any (n : Int) (w : World) :
    Calls Tryz.prog 42 #[.int .i64 n] w fun e w' => ∃ q c, e = .returned (.agg #[.slice q (roomN n) c]) ∧ Below w.heap.size w w' ∧ Off q w.heap.size w' ∧ RefAt w' q (roomN n) fun x => x := by
  have h4 := roomN_le n
  have hR := fun w => roomRef_any n w
  generalize roomN n = m at *
  have HR := Lib.hid hR
  clear hR
  obtain ⟨i1, hi1, hi2, hi3, hi4⟩ := info_parts (show (Tryz.prog.info? 3).map (fun i => (i.zero, i.size, i.bytes)) = some (some (.int .i64 0), 1, 8) by kernel_rfl)
  have HG := Lib.hid (fun T T' => gat_start w T T')
  go_enter Tryz.func42, Tryz.ntmps42
  go_wp2_with fail
  have HG := Lib.hid (HG.out 85 85)
  generalize ((w.alloc (.cells #[.slice none 0 0] 85)).alloc (.cells #[.slice none 0 0] 85)) = W0 at *
  go_loopw [4] (fun i wr => ∃ (k : Nat) (v : Value), i = .int .i64 k ∧ k ≤ m ∧ Hid (GatAt w w.heap.size (w.heap.size + 1) (w.heap.size + 2) v (namesL k fun x => x) wr)) (fun i _ => m - (intOf i).toNat)
  case atStart => exact ⟨0, _, rfl, Nat.zero_le _, HG⟩
  case round =>
    obtain ⟨k, v, rfl, hk, HK⟩ := hrel
    have i0 : (0 : Int) ≤ (k : Int) := by omega
    have c0 := HK.out.2.2.1.1
    have c1 := HK.out.2.1
    by_cases hlt : k < m
    · have i1' : (k : Int) < (m : Int) := by omega
      have hl := namesL_len k fun x => x
      have hN := namesL_succ k fun x => x
      have HN := Lib.hid hN
      have HLe := Lib.hid hl
      clear hl hN c1
      generalize namesL k (fun x => x) = xs at *
      have hxs : xs.length ≤ 4096 := by rw [HLe.out]; omega
      have hsz := HK.out.2.2.2.2.2.2.1
      go_wp2_with (first
        | (go_at_call 64; refine (HR.out _).mono ?_; rintro e w' ⟨rfl, rfl⟩)
        | (at_builtin; refine wpList_append_own_at _ rfl _ _ 32 rfl (w.heap.size + 2) 3 i1 (.int .i64 0) 1 8 Tryz.underlying32 hi1 hi2 hi3 hi4 rfl (by decide) v xs.length (xs.map encZ) rfl (HK.out.2.2.2.2.2.2.2.alloc _) ⟨wr.heap.size, 0, none⟩ 1 1 [.int .i64 (k : Int)] rfl rfl one_news (by intro u hu; simp at hu; subst hu; rfl) (by unfold maxLen; omega) (by omega) (by simp; omega) ?_; intro v' w6 hown6 hg6 _ _; obtain ⟨q6, d6, e6⟩ := owns_form hown6; subst e6; have hvar := HK.out.var hg6; have HK7 := Lib.hid (HK.out.step hown6 hg6); rw [← HN.out] at HK7; obtain ⟨c6, f6⟩ := hvar; clear hown6 hg6 c0 HK)
        | go_in)
      go_roundw
      case rel => exact ⟨k + 1, _, by go_num, by omega, HK7⟩
      case measure => (simp [intOf] <;> omega)
    · have hge : ¬ (k : Int) < (m : Int) := by omega
      obtain ⟨q, c, e, hend⟩ := HK.out.end
      rw [namesL_len] at e
      have HE : Hid (k = m) := Lib.hid (by omega)
      have HEn := Lib.hid hend
      subst e
      obtain ⟨d0, f0⟩ := c1
      clear hend
      go_wp2_with (first | (go_at_call 64; refine (HR.out _).mono ?_; rintro e w' ⟨rfl, rfl⟩) | go_in)
      obtain ⟨z1, z2, z3, z4⟩ := HEn.out (.slice q k c)
      refine bodyPost_ret (v := .agg #[.slice q k c]) (by simp [results, Tryz.results42, go_sem, z3]) rfl ⟨q, c, by rw [HE.out], z1, z4, ?_⟩
      rw [← HE.out]
      exact z2
theorem GatAt.begin {w0 W : World} {R : Nat} (hb : Below w0.heap.size w0 W) (hR : OneAt R W (.slice none 0 0)) (hr : w0.heap.size ≤ R) (T : TypeId) :
    GatAt w0 R W.heap.size (W.heap.size + 1) (.slice none 0 0) [] (W.alloc (.cells #[.slice none 0 0] T)) := by
  have h2 := OneAt.new W (.slice none 0 0) T
  have b2 := (Below.refl _ W).alloc (Nat.le_refl _) (.cells #[.slice none 0 0] T)
  have s1 := hb.size
  have s2 := hR.lt
  exact ⟨hb.trans (b2.mono s1), hR.keep b2, h2, by omega, by omega, by omega, by simp, World.ownsRow_nil _ _ _ _⟩
/-- In the midst of a join. -/
def JoinRel (w : World) (b0 R N B : Nat) (a : Option Addr) (n c : Nat) (v : Value) (xs : List Int) (W : World) : Prop :=
  GatAt w R N B v xs W ∧ OneAt b0 W (.slice a n c) ∧ b0 ≠ N ∧ b0 < B
theorem JoinRel.step {w W w2 : World} {b0 R N B n c : Nat} {a : Option Addr} {v v' : Value} {xs : List Int} {x : Int} {o : Obj} (h : JoinRel w b0 R N B a n c v xs W) (hown : w2.ownsRow B 3 1 v' (xs.length + 1) (xs.map encZ ++ [encZ x])) (hg : (W.alloc o).grownBy w2 v.ownBlock) :
    JoinRel w b0 R N B a n c v' (xs ++ [x]) (w2.setCell ⟨N, 0, none⟩ v') := by
  obtain ⟨h1, h2, h3, h4⟩ := h
  have hb := (Below.refl _ W).alloc (Nat.le_refl _) o
  have hk := (h1.keep hb).2.2.2.2.2.2.2
  exact ⟨h1.step hown hg, ((h2.keep hb).past hg (fun e => by have := (hk.lt b0 e.symm).1; omega)).past (cell_grown w2 N 0 v') (fun e => h3 (Option.some.inj e)), h3, h4⟩
/-- Ahead of the loop: the classes that came in, and the result. -/
def FirstAt (w : World) (a : Option Addr) (n c : Nat) (W : World) : Prop := Below w.heap.size w W ∧ OneAt w.heap.size W (.slice a n c) ∧ OneAt (w.heap.size + 1) W (.slice none 0 0)
theorem FirstAt.keep {w W W' : World} {a : Option Addr} {n c : Nat} (h : FirstAt w a n c W) (hb : Below W.heap.size W W') : FirstAt w a n c W' := ⟨h.1.trans (hb.mono h.1.size), h.2.1.keep hb, h.2.2.keep hb⟩
theorem FirstAt.start (w : World) (a : Option Addr) (n c : Nat) (T T' : TypeId) : FirstAt w a n c ((w.alloc (.cells #[.slice a n c] T)).alloc (.cells #[.slice none 0 0] T')) := by
  have h1 := OneAt.new w (.slice a n c) T
  have b1 := (Below.refl w.heap.size w).alloc (Nat.le_refl _) (.cells #[.slice a n c] T)
  have h2 := OneAt.new (w.alloc (.cells #[.slice a n c] T)) (.slice none 0 0) T'
  have b2 := (Below.refl _ (w.alloc (.cells #[.slice a n c] T))).alloc (Nat.le_refl _) (.cells #[.slice none 0 0] T')
  rw [World.size_alloc] at h2
  exact ⟨b1.trans (b2.mono b1.size), h1.keep b2, h2⟩
theorem FirstAt.end {w W : World} {a : Option Addr} {n c : Nat} (h : FirstAt w a n c W) (u : Value) : Below w.heap.size w (W.setCell ⟨w.heap.size + 1, 0, none⟩ u) ∧ (W.setCell ⟨w.heap.size + 1, 0, none⟩ u).cell? ⟨w.heap.size + 1, 0, none⟩ = some u :=
  ⟨h.1.grown (cell_grown W _ 0 u) h.1.size (fun k e => by cases e; omega), (h.2.2.set u).1⟩
theorem joinRef_none (n : Nat) (a : Option Addr) (c : Nat) (u v : Int) (w : World) (hf : (fitB n u && fitB n v) = false) :
    Calls Tryz.prog 43 #[.agg #[.slice a n c], .int .i64 u, .int .i64 v] w fun e w' => e = .returned (.agg #[.slice a n c]) ∧ Below w.heap.size w w' := by
  have HS := Lib.hid (fun T T' => FirstAt.start w a n c T T')
  cases hu : fitB n u
  · have HF := Lib.hid hu
    clear hu hf
    go_enter Tryz.func43, Tryz.ntmps43
    go_wp2_with fail
    refine (inRef_any n a c u _).mono ?_
    rintro e w1 ⟨rfl, hb1⟩
    rw [HF.out]
    have HB1 := Lib.hid ((HS.out _ _).keep hb1)
    have c0 := HB1.out.2.1.1
    obtain ⟨c1, f1⟩ := HB1.out.2.2
    clear hb1
    go_wp2
    obtain ⟨z1, z2⟩ := HB1.out.end (.slice a n c)
    exact bodyPost_ret (v := .agg #[.slice a n c]) (by simp [results, Tryz.results43, go_sem, z2]) rfl ⟨rfl, z1⟩
  · have HF := Lib.hid hu
    have HG : Hid (fitB n v = false) := Lib.hid (by rw [hu, Bool.true_and] at hf; exact hf)
    clear hu hf
    go_enter Tryz.func43, Tryz.ntmps43
    go_wp2_with fail
    refine (inRef_any n a c u _).mono ?_
    rintro e w1 ⟨rfl, hb1⟩
    rw [HF.out]
    have HB1 := Lib.hid ((HS.out _ _).keep hb1)
    have c0 := HB1.out.2.1.1
    clear hb1
    go_wp2_with fail
    refine (inRef_any n a c v _).mono ?_
    rintro e w2 ⟨rfl, hb2⟩
    rw [HG.out]
    have HB2 := Lib.hid (HB1.out.keep hb2)
    clear hb2 c0 HB1
    have c0 := HB2.out.2.1.1
    obtain ⟨c1, f1⟩ := HB2.out.2.2
    go_wp2
    obtain ⟨z1, z2⟩ := HB2.out.end (.slice a n c)
    exact bodyPost_ret (v := .agg #[.slice a n c]) (by simp [results, Tryz.results43, go_sem, z2]) rfl ⟨rfl, z1⟩
set_option maxRecDepth 100000 in
set_option maxHeartbeats 2000000 in
theorem joinRef_some (n : Nat) (hn : n ≤ 4096) (p : Nat → Nat) (a : Option Addr) (c x y : Nat) (w : World) (h : RefAt w a n p) (hx : x < n) (hy : y < n) :
    Calls Tryz.prog 43 #[.agg #[.slice a n c], .int .i64 (x : Int), .int .i64 (y : Int)] w fun e w' => ∃ q c', e = .returned (.agg #[.slice q n c']) ∧ Below w.heap.size w w' ∧ Off q w.heap.size w' ∧ RefAt w' q n (joinN p x y) := by
  have HS := Lib.hid (fun T T' => FirstAt.start w a n c T T')
  have HF := Lib.hid (fit_of hx)
  have HG := Lib.hid (fit_of hy)
  obtain ⟨b, off, rfl, hbN, -⟩ := h.at hx
  have HA : Hid (∀ W, Below w.heap.size w W → ∀ z, z < n → W.cell? ⟨b, off + z, none⟩ = some (.int .i64 (p z : Int))) := Lib.hid fun W hb z hz => by
    obtain ⟨b1, o1, e1, h1, d1⟩ := h.at hz
    cases e1
    exact (hb.cell (p := ⟨b, off + z, none⟩) h1).trans d1
  clear h
  have i0 : (0 : Int) ≤ (x : Int) := by omega
  have i1 : (x : Int) < (n : Int) := by omega
  have i2 : (0 : Int) ≤ (y : Int) := by omega
  have i3 : (y : Int) < (n : Int) := by omega
  obtain ⟨j1, hj1, hj2, hj3, hj4⟩ := info_parts (show (Tryz.prog.info? 3).map (fun i => (i.zero, i.size, i.bytes)) = some (some (.int .i64 0), 1, 8) by kernel_rfl)
  go_enter Tryz.func43, Tryz.ntmps43
  go_wp2_with fail
  refine (inRef_any n _ c (x : Int) _).mono ?_
  rintro e w1 ⟨rfl, hb1⟩
  rw [HF.out]
  have HB1 := Lib.hid ((HS.out _ _).keep hb1)
  have c0 := HB1.out.2.1.1
  clear hb1
  go_wp2_with fail
  refine (inRef_any n _ c (y : Int) _).mono ?_
  rintro e w2 ⟨rfl, hb2⟩
  rw [HG.out]
  have HB2 := Lib.hid (HB1.out.keep hb2)
  clear hb2 c0 HB1 HS
  have c0 := HB2.out.2.1.1
  have d1 := HA.out w2 HB2.out.1 x hx
  have d2 := HA.out w2 HB2.out.1 y hy
  go_upto_region 3 with fail
  go_cut [7, 8] from 23 to 32 (fun s t wx => s = .int .i64 (p x : Int) ∧ t = .int .i64 (p y : Int) ∧ Hid (FirstAt w (some ⟨b, off, none⟩) n c wx))
  case first =>
    go_quiet (fail)
    go_wp2_with fail
    go_meet
    case rel => exact ⟨rfl, rfl, Lib.hid (HB2.out.keep (below_drewN (Below.refl _ _) _))⟩
  case rest =>
    obtain ⟨rfl, rfl, HB3⟩ := hcut
    clear c0 d1 d2 HB2
    go_wp2_with fail
    have hlt1 := HB3.out.2.1.lt
    have HJ : Hid (JoinRel w w.heap.size (w.heap.size + 1) wc.heap.size (wc.heap.size + 1) (some ⟨b, off, none⟩) n c (.slice none 0 0) (namesL 0 (joinN p x y)) (wc.alloc (.cells #[.slice none 0 0] 85))) :=
      Lib.hid ⟨GatAt.begin HB3.out.1 HB3.out.2.2 (by omega) _, HB3.out.2.1.keep ((Below.refl _ _).alloc (Nat.le_refl _) _), by omega, by omega⟩
    clear HB3 hlt1
    generalize wc.alloc (.cells #[.slice none 0 0] 85) = W0 at *
    generalize wc.heap.size = N at *
    go_loopw [10] (fun i wr => ∃ (k : Nat) (v : Value), i = .int .i64 k ∧ k ≤ n ∧ Hid (JoinRel w w.heap.size (w.heap.size + 1) N (N + 1) (some ⟨b, off, none⟩) n c v (namesL k (joinN p x y)) wr)) (fun i _ => n - (intOf i).toNat)
    case atStart => exact ⟨0, _, rfl, Nat.zero_le _, HJ⟩
    case round =>
      obtain ⟨k, v, rfl, hk, HK⟩ := hrel
      clear HJ
      have k0 : (0 : Int) ≤ (k : Int) := by omega
      have c0 := HK.out.2.1.1
      by_cases hlt : k < n
      · have k1 : (k : Int) < (n : Int) := by omega
        have d0 := HA.out wr HK.out.1.1 k hlt
        have cN := HK.out.1.2.2.1.1
        have hN := namesL_succ k (joinN p x y)
        have hl := namesL_len k (joinN p x y)
        have HN := Lib.hid hN
        have HLe := Lib.hid hl
        have HJn : Hid (joinN p x y k = if p k = p x ∨ p k = p y then min (p x) (p y) else p k) := Lib.hid rfl
        clear hN hl
        generalize namesL k (joinN p x y) = xs at *
        have hxs : xs.length ≤ 4096 := by rw [HLe.out]; omega
        generalize joinN p x y k = J at *
        generalize p k = A at *
        generalize p x = P at *
        generalize p y = Q at *
        have hsz := HK.out.1.2.2.2.2.2.2.1
        by_cases h1 : A = P
        · have hJ : J = min P Q := by rw [HJn.out, if_pos (Or.inl h1)]
          subst h1
          rcases Nat.lt_trichotomy A Q with h3 | h3 | h3
          · have hJ2 : J = A := by omega
            have q1 : (A : Int) < (Q : Int) := by omega
            have q2 : ¬ (Q : Int) < (A : Int) := by omega
            have q3 : (A : Int) ≤ (Q : Int) := by omega
            clear hJ h3
            have HN2 : Hid (namesL (k + 1) (joinN p x y) = xs ++ [(A : Int)]) := Lib.hid (by rw [HN.out, hJ2])
            clear HN HJn hJ2
            go_wp2_with (first
              | (at_builtin; refine wpList_append_own_at _ rfl _ _ 32 rfl (N + 1) 3 j1 (.int .i64 0) 1 8 Tryz.underlying32 hj1 hj2 hj3 hj4 rfl (by decide) v xs.length (xs.map encZ) rfl (HK.out.1.2.2.2.2.2.2.2.alloc _) ⟨wr.heap.size, 0, none⟩ 1 1 [.int .i64 (A : Int)] rfl rfl one_news (by intro u hu; simp at hu; subst hu; rfl) (by unfold maxLen; omega) (by omega) (by simp; omega) ?_; intro v' w6 hown6 hg6 _ _; obtain ⟨q6, d6, e6⟩ := owns_form hown6; subst e6; have hvar := HK.out.1.var hg6; have HK7 := Lib.hid (HK.out.step hown6 hg6); rw [← HN2.out] at HK7; obtain ⟨c6, f6⟩ := hvar; clear hown6 hg6 c0 cN HK)
              | go_in)
            go_roundw
            case rel => exact ⟨k + 1, _, by go_num, by omega, HK7⟩
            case measure => (simp [intOf] <;> omega)
          · subst h3
            have hJ2 : J = A := by omega
            clear hJ
            have HN2 : Hid (namesL (k + 1) (joinN p x y) = xs ++ [(A : Int)]) := Lib.hid (by rw [HN.out, hJ2])
            clear HN HJn hJ2
            go_wp2_with (first
              | (at_builtin; refine wpList_append_own_at _ rfl _ _ 32 rfl (N + 1) 3 j1 (.int .i64 0) 1 8 Tryz.underlying32 hj1 hj2 hj3 hj4 rfl (by decide) v xs.length (xs.map encZ) rfl (HK.out.1.2.2.2.2.2.2.2.alloc _) ⟨wr.heap.size, 0, none⟩ 1 1 [.int .i64 (A : Int)] rfl rfl one_news (by intro u hu; simp at hu; subst hu; rfl) (by unfold maxLen; omega) (by omega) (by simp; omega) ?_; intro v' w6 hown6 hg6 _ _; obtain ⟨q6, d6, e6⟩ := owns_form hown6; subst e6; have hvar := HK.out.1.var hg6; have HK7 := Lib.hid (HK.out.step hown6 hg6); rw [← HN2.out] at HK7; obtain ⟨c6, f6⟩ := hvar; clear hown6 hg6 c0 cN HK)
              | go_in)
            go_roundw
            case rel => exact ⟨k + 1, _, by go_num, by omega, HK7⟩
            case measure => (simp [intOf] <;> omega)
          · have hJ2 : J = Q := by omega
            have q1 : ¬ (A : Int) < (Q : Int) := by omega
            have q2 : ¬ (A : Int) ≤ (Q : Int) := by omega
            have q4 : (Q : Int) < (A : Int) := by omega
            have q3 : (Q : Int) ≤ (A : Int) := by omega
            clear hJ h3
            have HN2 : Hid (namesL (k + 1) (joinN p x y) = xs ++ [(Q : Int)]) := Lib.hid (by rw [HN.out, hJ2])
            clear HN HJn hJ2
            go_wp2_with (first
              | (at_builtin; refine wpList_append_own_at _ rfl _ _ 32 rfl (N + 1) 3 j1 (.int .i64 0) 1 8 Tryz.underlying32 hj1 hj2 hj3 hj4 rfl (by decide) v xs.length (xs.map encZ) rfl (HK.out.1.2.2.2.2.2.2.2.alloc _) ⟨wr.heap.size, 0, none⟩ 1 1 [.int .i64 (Q : Int)] rfl rfl one_news (by intro u hu; simp at hu; subst hu; rfl) (by unfold maxLen; omega) (by omega) (by simp; omega) ?_; intro v' w6 hown6 hg6 _ _; obtain ⟨q6, d6, e6⟩ := owns_form hown6; subst e6; have hvar := HK.out.1.var hg6; have HK7 := Lib.hid (HK.out.step hown6 hg6); rw [← HN2.out] at HK7; obtain ⟨c6, f6⟩ := hvar; clear hown6 hg6 c0 cN HK)
              | go_in)
            go_roundw
            case rel => exact ⟨k + 1, _, by go_num, by omega, HK7⟩
            case measure => (simp [intOf] <;> omega)
        · have e1 : ((A : Int) == (P : Int)) = false := by simp; omega
          by_cases h2 : A = Q
          · have hJ : J = min P Q := by rw [HJn.out, if_pos (Or.inr h2)]
            subst h2
            rcases Nat.lt_trichotomy P A with h3 | h3 | h3
            · have hJ2 : J = P := by omega
              have q1 : (P : Int) < (A : Int) := by omega
              have q2 : ¬ (A : Int) < (P : Int) := by omega
              have q3 : (P : Int) ≤ (A : Int) := by omega
              clear h1 hJ h3
              have HN2 : Hid (namesL (k + 1) (joinN p x y) = xs ++ [(P : Int)]) := Lib.hid (by rw [HN.out, hJ2])
              clear HN HJn hJ2
              go_wp2_with (first
                | (at_builtin; refine wpList_append_own_at _ rfl _ _ 32 rfl (N + 1) 3 j1 (.int .i64 0) 1 8 Tryz.underlying32 hj1 hj2 hj3 hj4 rfl (by decide) v xs.length (xs.map encZ) rfl (HK.out.1.2.2.2.2.2.2.2.alloc _) ⟨wr.heap.size, 0, none⟩ 1 1 [.int .i64 (P : Int)] rfl rfl one_news (by intro u hu; simp at hu; subst hu; rfl) (by unfold maxLen; omega) (by omega) (by simp; omega) ?_; intro v' w6 hown6 hg6 _ _; obtain ⟨q6, d6, e6⟩ := owns_form hown6; subst e6; have hvar := HK.out.1.var hg6; have HK7 := Lib.hid (HK.out.step hown6 hg6); rw [← HN2.out] at HK7; obtain ⟨c6, f6⟩ := hvar; clear hown6 hg6 c0 cN HK)
                | go_in)
              go_roundw
              case rel => exact ⟨k + 1, _, by go_num, by omega, HK7⟩
              case measure => (simp [intOf] <;> omega)
            · exact absurd h3.symm h1
            · have hJ2 : J = A := by omega
              have q1 : ¬ (P : Int) < (A : Int) := by omega
              have q2 : ¬ (P : Int) ≤ (A : Int) := by omega
              have q4 : (A : Int) < (P : Int) := by omega
              have q3 : (A : Int) ≤ (P : Int) := by omega
              clear h1 hJ h3
              have HN2 : Hid (namesL (k + 1) (joinN p x y) = xs ++ [(A : Int)]) := Lib.hid (by rw [HN.out, hJ2])
              clear HN HJn hJ2
              go_wp2_with (first
                | (at_builtin; refine wpList_append_own_at _ rfl _ _ 32 rfl (N + 1) 3 j1 (.int .i64 0) 1 8 Tryz.underlying32 hj1 hj2 hj3 hj4 rfl (by decide) v xs.length (xs.map encZ) rfl (HK.out.1.2.2.2.2.2.2.2.alloc _) ⟨wr.heap.size, 0, none⟩ 1 1 [.int .i64 (A : Int)] rfl rfl one_news (by intro u hu; simp at hu; subst hu; rfl) (by unfold maxLen; omega) (by omega) (by simp; omega) ?_; intro v' w6 hown6 hg6 _ _; obtain ⟨q6, d6, e6⟩ := owns_form hown6; subst e6; have hvar := HK.out.1.var hg6; have HK7 := Lib.hid (HK.out.step hown6 hg6); rw [← HN2.out] at HK7; obtain ⟨c6, f6⟩ := hvar; clear hown6 hg6 c0 cN HK)
                | go_in)
              go_roundw
              case rel => exact ⟨k + 1, _, by go_num, by omega, HK7⟩
              case measure => (simp [intOf] <;> omega)
          · have e2 : ((A : Int) == (Q : Int)) = false := by simp; omega
            have hJ2 : J = A := by rw [HJn.out, if_neg (fun h => h.elim h1 h2)]
            clear h1 h2
            have HN2 : Hid (namesL (k + 1) (joinN p x y) = xs ++ [(A : Int)]) := Lib.hid (by rw [HN.out, hJ2])
            clear HN HJn hJ2
            go_wp2_with (first
              | (at_builtin; refine wpList_append_own_at _ rfl _ _ 32 rfl (N + 1) 3 j1 (.int .i64 0) 1 8 Tryz.underlying32 hj1 hj2 hj3 hj4 rfl (by decide) v xs.length (xs.map encZ) rfl (HK.out.1.2.2.2.2.2.2.2.alloc _) ⟨wr.heap.size, 0, none⟩ 1 1 [.int .i64 (A : Int)] rfl rfl one_news (by intro u hu; simp at hu; subst hu; rfl) (by unfold maxLen; omega) (by omega) (by simp; omega) ?_; intro v' w6 hown6 hg6 _ _; obtain ⟨q6, d6, e6⟩ := owns_form hown6; subst e6; have hvar := HK.out.1.var hg6; have HK7 := Lib.hid (HK.out.step hown6 hg6); rw [← HN2.out] at HK7; obtain ⟨c6, f6⟩ := hvar; clear hown6 hg6 c0 cN HK)
              | go_in)
            go_roundw
            case rel => exact ⟨k + 1, _, by go_num, by omega, HK7⟩
            case measure => (simp [intOf] <;> omega)
      · have hge : ¬ (k : Int) < (n : Int) := by omega
        have cN := HK.out.1.2.2.1.1
        obtain ⟨q, c', e, hend⟩ := HK.out.1.end
        rw [namesL_len] at e
        have HE : Hid (k = n) := Lib.hid (by omega)
        have HEn := Lib.hid hend
        subst e
        obtain ⟨e0, f0⟩ := HK.out.1.2.1
        clear hend
        go_wp2
        obtain ⟨z1, z2, z3, z4⟩ := HEn.out (.slice q k c')
        refine bodyPost_ret (v := .agg #[.slice q k c']) (by simp [results, Tryz.results43, go_sem, z3]) rfl ⟨q, ⟨c', by rw [HE.out]⟩, z1, z4, ?_⟩
        rw [← HE.out]
        exact z2
end Go.Proofs.YtmohfmhkhldhnaaGreat.Ds
