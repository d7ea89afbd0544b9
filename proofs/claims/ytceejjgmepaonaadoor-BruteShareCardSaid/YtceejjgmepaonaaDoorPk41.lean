/- Texts that the laws of this seat stand on, part 41. -/
import Derived.Test.YtceejjgmepaonaaDoorPk23
import Derived.Test.YtceejjgmepaonaaDoorPk20
import Derived.Maps.AppendAt
import Derived.Test.YtceejjgmepaonaaDoorPk14
/- side's small functions: Check, isVertex, has (the library's search by halves), others. -/
namespace Go.Proofs.YtceejjgmepaonaaDoor.Sd
open Go.RowKit Go.ChangeShapes EdPure NtPure CutPure SdPure Cm
/-- At the head of a round: what came so far may be, y is the last of it (or -1). -/
def AhSt (n : Int) (l : List Int) (k : Nat) (y : Int) : Prop := RightS n (l.take k) ∧ ∀ x, RightS n (l.take k ++ [x]) ↔ (y < x ∧ x < n)
theorem ah_start (n : Int) (l : List Int) : AhSt n l 0 (-1) := by
  refine ⟨⟨fun v hv => by simp at hv, by simp⟩, fun x => ?_⟩
  rw [right_snoc]
  constructor
  · rintro ⟨-, h, -⟩; omega
  · intro h
    exact ⟨⟨fun v hv => by simp at hv, by simp⟩, by omega, fun y hy => by simp at hy⟩
theorem ah_next {n : Int} {l : List Int} {k : Nat} {y : Int} (h : AhSt n l k y) (hk : k < l.length) (h1 : y < l[k]) (h2 : l[k] < n) : AhSt n l (k + 1) l[k] := by
  have hR : RightS n (l.take (k + 1)) := by rw [take_one hk]; exact (h.2 _).2 ⟨h1, h2⟩
  refine ⟨hR, fun x => ?_⟩
  rw [right_snoc, take_last hk]
  have h0 := hR.1 l[k] (by rw [take_one hk]; exact List.mem_append_right _ (List.mem_singleton.2 rfl))
  constructor
  · rintro ⟨-, h3, h4⟩
    exact ⟨h4 _ rfl, h3.2⟩
  · rintro ⟨h3, h4⟩
    exact ⟨hR, by omega, fun z hz => by cases hz; exact h3⟩
theorem ah_bad {n : Int} {l : List Int} {k : Nat} {y : Int} (h : AhSt n l k y) (hk : k < l.length) (h1 : ¬ (y < l[k] ∧ l[k] < n)) : chkS n l = 4 :=
  chk_bad (k := k + 1) (fun e => h1 ((h.2 _).1 (by rw [← take_one hk]; exact e)))
set_option maxHeartbeats 1000000 in
theorem checkD_any (n : Int) (a : Option Addr) (c : Nat) (l : List Int) (hl : l.length ≤ 1000000000) (w : World) (hR : ReadsL encZ w.heap.size w a l) :
    Calls Tryd.prog 61 #[.int .i64 n, .slice a l.length c] w fun e w' => e = .returned (.int .i64 (chkS n l)) ∧ ∃ m, w' = w.drewN m := by
  have HR := Lib.hid hR
  clear hR
  go_enter Tryd.func61, Tryd.ntmps61
  go_wp2
  go_loopw [5, 10] (fun s i wr => ∃ (k m : Nat) (y : Int), s = .int .i64 y ∧ i = .int .i64 k ∧ k ≤ l.length ∧ Hid (AhSt n l k y) ∧ wr = w.drewN m) (fun _ i _ => l.length - (intOf i).toNat)
  case atStart => exact ⟨0, 0, -1, rfl, rfl, Nat.zero_le _, Lib.hid (ah_start n l), rfl⟩
  case round =>
    obtain ⟨k, m, y, rfl, rfl, hk, HK, rfl⟩ := hrel
    by_cases hlt : k < l.length
    · have i1 : (k : Int) < (l.length : Int) := by omega
      have i0 : (0 : Int) ≤ (k : Int) := by omega
      obtain ⟨b, off, rfl, hbN, hc0⟩ := HR.out.at hlt
      have hc : w.cell? ⟨b, off + k, none⟩ = some (encZ l[k]) := hc0
      have HN := Lib.hid (ah_next HK.out hlt)
      have HB := Lib.hid (ah_bad HK.out hlt)
      clear hc0
      generalize l[k] = x at *
      unfold encZ at hc
      by_cases c1 : x ≤ y
      · have HX := Lib.hid (HB.out (by omega))
        have t1 : decide (x ≤ y) = true := by simpa using c1
        go_wp2
        go_ret
        exact ⟨ret_i HX.out.symm, _, rfl⟩
      · have t1 : decide (x ≤ y) = false := by simpa using c1
        by_cases c2 : n ≤ x
        · have HX := Lib.hid (HB.out (by omega))
          have t2 : decide (n ≤ x) = true := by simpa using c2
          have t3 : decide (x ≥ n) = true := by simpa using c2
          go_wp2
          go_ret
          exact ⟨ret_i HX.out.symm, _, rfl⟩
        · have HX := Lib.hid (HN.out (by omega) (by omega))
          have t2 : decide (n ≤ x) = false := by simpa using c2
          have t3 : decide (x ≥ n) = false := by simpa using c2
          go_wp2
          go_roundw
          case rel => exact ⟨k + 1, _, x, rfl, by go_num, hlt, HX, rfl⟩
          case measure => simp [intOf]; omega
    · have HX : Hid (chkS n l = if l = [] ∨ (l.length : Int) = n then 16 else 0) := Lib.hid (chk_good (by have := HK.out.1; rwa [List.take_of_length_le (by omega)] at this))
      have hke : k = l.length := by omega
      subst hke
      by_cases c1 : l.length = 0
      · have HY : Hid (chkS n l = 16) := Lib.hid (by rw [HX.out, if_pos (Or.inl (List.length_eq_zero_iff.1 c1))])
        have t1 : ((l.length : Int) == 0) = true := by simpa using c1
        clear c1
        go_wp2
        go_ret
        exact ⟨ret_i HY.out.symm, _, rfl⟩
      · have t1 : ((l.length : Int) == 0) = false := by simpa using c1
        have c1' : l ≠ [] := fun e => c1 (by rw [e]; rfl)
        by_cases c2 : (l.length : Int) = n
        · have HY : Hid (chkS n l = 16) := Lib.hid (by rw [HX.out, if_pos (Or.inr c2)])
          have t2 : ((l.length : Int) == n) = true := by simpa using c2
          clear c1 c2 c1'
          go_wp2
          go_ret
          exact ⟨ret_i HY.out.symm, _, rfl⟩
        · have HY : Hid (chkS n l = 0) := Lib.hid (by rw [HX.out, if_neg (fun e => e.elim c1' c2)])
          have t2 : ((l.length : Int) == n) = false := by simpa using c2
          clear c1 c2 c1'
          go_wp2
          go_ret
          exact ⟨ret_i HY.out.symm, _, rfl⟩
theorem sideCheck_any (n : Int) (a : Option Addr) (c : Nat) (l : List Int) (hl : l.length ≤ 1000000000) (w : World) (hR : ReadsL encZ w.heap.size w a l) :
    Calls Tryd.prog 61 #[.int .i64 n, .slice a l.length c] w fun e w' => e = .returned (.int .i64 (chkS n l)) ∧ Below w.heap.size w w' :=
  (checkD_any n a c l hl w hR).mono fun _ _ ⟨he, m, hm⟩ => ⟨he, by rw [hm]; exact below_drewN (Below.refl _ _) m⟩
/-! ### is it among them? -/
theorem nanC_any (v : Int) (w : World) : Calls Tryd.prog 91 #[.int .i64 v] w fun e w' => e = .returned (.bool false) ∧ w = w' := by
  have t : (v != v) = false := by simp
  go_enter Tryd.func91, Tryd.ntmps91
  go_wp2
  go_ret
  exact ⟨rfl, rfl⟩
theorem low_of {l : List Int} (hs : l.Pairwise (· < ·)) {i j : Nat} (hi : i < l.length) (hj : j < l.length) (h : i ≤ j) : l[i] ≤ l[j] := by
  rcases Nat.eq_or_lt_of_le h with h | h
  · subst h; exact Int.le_refl _
  · exact Int.le_of_lt (List.pairwise_iff_getElem.1 hs i j hi hj h)
/-- What is known while x is sought. -/
def SkSt (l : List Int) (x : Int) (lo hi : Nat) : Prop := (∀ t (h : t < l.length), t < lo → l[t] < x) ∧ ∀ t (h : t < l.length), hi ≤ t → x ≤ l[t]
theorem sk_in {l : List Int} (hs : l.Pairwise (· < ·)) {x : Int} {k : Nat} (h : SkSt l x k k) : inS l x = true ↔ ∃ hk : k < l.length, l[k] = x := by
  rw [inS_iff]
  constructor
  · intro hm
    obtain ⟨t, ht, e⟩ := List.getElem_of_mem hm
    have h1 : k ≤ t := by
      rcases Nat.lt_or_ge t k with h1 | h1
      · have := h.1 t ht h1; omega
      · exact h1
    rcases Nat.eq_or_lt_of_le h1 with h2 | h2
    · subst h2; exact ⟨ht, e⟩
    · have h3 := h.2 k (by omega) (Nat.le_refl _)
      have h4 := List.pairwise_iff_getElem.1 hs k t (by omega) ht h2
      omega
  · rintro ⟨hk, e⟩
    rw [← e]; exact List.getElem_mem hk
end Go.Proofs.YtceejjgmepaonaaDoor.Sd
/- side's others and Normal. -/
namespace Go.Proofs.YtceejjgmepaonaaDoor.Sd
open Go.RowKit Go.ChangeShapes EdPure NtPure CutPure SdPure Cm
/-- What is left of a side at v: those from v on. -/
def RestOf (l : List Int) (v : Int) (R : List Int) : Prop := R.Pairwise (· < ·) ∧ (∀ x ∈ R, v ≤ x) ∧ ∀ x, v ≤ x → (x ∈ l ↔ x ∈ R)
theorem rest_start {n : Int} {l : List Int} (h : RightS n l) : RestOf l 0 l := ⟨h.2, fun x hx => (h.1 x hx).1, fun _ _ => Iff.rfl⟩
theorem rest_take {l R : List Int} {v : Int} (h : RestOf l v (v :: R)) : inS l v = true ∧ RestOf l (v + 1) R := by
  obtain ⟨h1, h2, h3⟩ := h
  rw [List.pairwise_cons] at h1
  refine ⟨inS_iff.2 ((h3 v (Int.le_refl _)).2 (by simp)), h1.2, fun x hx => by have := h1.1 x hx; omega, fun x hx => ?_⟩
  rw [h3 x (by omega), List.mem_cons]
  exact ⟨fun e => e.elim (fun e => by omega) id, Or.inr⟩
theorem rest_skip {l R : List Int} {v : Int} (h : RestOf l v R) (hv : R.head? ≠ some v) : inS l v = false ∧ RestOf l (v + 1) R := by
  obtain ⟨h1, h2, h3⟩ := h
  have hn : v ∉ R := by
    cases R with
    | nil => simp
    | cons y R =>
      rw [List.pairwise_cons] at h1
      have hy := h2 y (by simp)
      have hne : y ≠ v := fun e => hv (by rw [e]; rfl)
      intro hm
      rcases List.mem_cons.1 hm with e | e
      · exact hne e.symm
      · have := h1.1 v e; omega
  refine ⟨Bool.eq_false_iff.2 (fun e => hn ((h3 v (Int.le_refl _)).1 (inS_iff.1 e))), h1, fun x hx => ?_, fun x hx => h3 x (by omega)⟩
  have := h2 x hx
  rcases Int.lt_or_eq_of_le this with e | e
  · omega
  · subst e; exact absurd hx hn
theorem right_few {n : Nat} {l : List Int} (h : RightS n l) : l.length ≤ n := by
  have key : ∀ (l : List Int) (m : Int), (∀ x ∈ l, m ≤ x ∧ x < n) → l.Pairwise (· < ·) → (l.length : Int) ≤ max ((n : Int) - m) 0 := by
    intro l
    induction l with
    | nil => intro m _ _; simp; omega
    | cons x l ih =>
      intro m h1 h2
      rw [List.pairwise_cons] at h2
      have hx := h1 x (by simp)
      have := ih (x + 1) (fun y hy => ⟨by have := h2.1 y hy; omega, (h1 y (by simp [hy])).2⟩) h2.2
      rw [List.length_cons]
      omega
  have := key l 0 h.1 h.2
  omega
/-- One on, in memory. -/
theorem reads_tail {M : Nat} {w : World} {b off : Nat} {x : Int} {R : List Int} (h : ReadsL encZ M w (some ⟨b, off, none⟩) (x :: R)) : ReadsL encZ M w (some ⟨b, off + 1, none⟩) R := by
  rcases h with h | ⟨b', off', he, hb, hc⟩
  · cases h
  · cases he
    refine Or.inr ⟨b, off + 1, rfl, hb, fun i hi => ?_⟩
    have := hc (i + 1) (by simpa using hi)
    rw [show off + (i + 1) = off + 1 + i by omega] at this
    exact this
theorem make_few (c : Nat) (hc : c ≤ 1000000) (w : World) :
    (Instr.makeSlice 29 (.int .i64 0) (.int .i64 (c : Int))).run Tryd.prog w = .ok (.slice (some ⟨w.heap.size, 0, none⟩) 0 c) (w.alloc (.cells (madeCells #[.int .i64 0] c) 3)) := by
  obtain ⟨i, h1, h2, h3, h4⟩ := info_int
  rw [run_make w 29 3 i _ Tryd.underlying29 h1 h2 .i64 .i64 0 c (by omega) (by omega) (by rw [h4]; omega) (by omega)]
  rw [h3]
  simp [Value.cells]
theorem slice_one (b off ln c : Nat) (h : 1 ≤ ln) (wx : World) :
    (Instr.sliceAt 29 (.slice (some ⟨b, off, none⟩) ln c) (some (.int .i64 1)) none none).run Tryd.prog wx = .ok (.slice (some ⟨b, if c = 1 then off else off + 1, none⟩) (ln - 1) (c - 1)) wx := by
  have he : Tryd.prog.elem 29 = 3 := by kernel_rfl
  have hu : Tryd.prog.underlying 29 = some (.slice (Tryd.prog.elem 29)) := by rw [he]; exact Tryd.underlying29
  obtain ⟨i, h1, -, h3, -⟩ := info_of (P := Tryd.prog) (T := 3) (z := .int .i64 0) (a := 1) (b := 8) (by kernel_rfl)
  rw [run_sliceAt_slice _ _ _ _ _ _ hu, run_slice_any _ _ _ _ _ hu]
  have hr : (1 : Int) ≤ (ln : Int) := by omega
  simp [Instr.sliceBounds, run_sliceBound, Result.andThen, sliced, sizeOf, typeInfo, h1, h3, Addr.add, he, hr]
  split <;> rfl
/-- What is left of the side, where the loop's variable has it (in what lay there ahead). -/
def RsSt (l : List Int) (k : Nat) (a : Option Addr) (c : Nat) (R : List Int) (w : World) : Prop := ReadsL encZ w.heap.size w a R ∧ R.length ≤ c ∧ RestOf l k R
end Go.Proofs.YtceejjgmepaonaaDoor.Sd
/- A range, with two variables, over a function value that holds captured variables, where the body always goes on: what the caller owes. No function of the program is named. -/
namespace Go.Proofs.YtceejjgmepaonaaDoor
open Go.RowKit
/-- The range: the function value has its captured variables behind yield; it hands over just xs, two values each; the caller's word I speaks of its own cells and of what is never turned; E is what the assignment lays for the round. -/
theorem range_shut {α : Type} {P : Program} {n : Nat} {g : Operand} {p q : Tmp} {assign body : Code} {Q : Exit → Act → World → Prop} {a : Act} {w : World} (h1 : 1 ≤ n)
    {gf : Nat} {caps : Array Value} (hg : a.eval g = .func (.func gf) #[] caps) (eg : ∀ args w, (callFunc gf args).run P w = .ok (.enter gf args) w)
    (e1 e2 : α → Value) (xs : List α) (I : List α → World → Prop) (hI : OwnFrom w.heap.size I) (hIB : ∀ ys W W', I ys W → Below W.heap.size W W' → I ys W') (h0 : I [] w)
    (hit : ∀ (l : Nat) (J : List α → World → Prop) (W : World), (∀ ys W', J ys W' → I ys W') → (∀ ys W' W'', J ys W' → Below W'.heap.size W' W'' → J ys W'') →
      (∀ pre x rest W', xs = pre ++ x :: rest → J pre W' → YieldAt Fence.wide (n - 1 - 1) P l #[e1 x, e2 x] W' fun e V => e = .returned (.bool true) ∧ J (pre ++ [x]) V) → J [] W →
      CallsIn Fence.wide (n - 1) P gf (#[.func (.yield l) #[] #[]] ++ caps) W fun e V => (∃ v, e = .returned v) ∧ J xs V)
    (a₁ : α → Nat → Act) (aw : α → World → World) (E : α → Nat → World → Prop) (hE : ∀ b, OwnFrom w.heap.size (fun x => E x b))
    (haw : ∀ x W, Below W.heap.size W (aw x W) ∧ E x W.heap.size (aw x W))
    (hassign : ∀ (l : Nat) (x : α) (W : World) (K : Act → World → Prop), K (a₁ x W.heap.size) (aw x W) →
      assign.wpIn (Fence.wide.inRound l) (n - 1 - 1) P (Exit.then K (fun _ _ _ => False)) { tmps := (a.tmps.setIfInBounds p (e1 x)).setIfInBounds q (e2 x), defers := [] } W)
    (hbody : ∀ (l : Nat) (pre : List α) (x : α) (rest : List α) (b : Nat) (W : World), xs = pre ++ x :: rest → I pre W → E x b W → body.wpIn (Fence.wide.inRound l) (n - 1 - 1) P (staysOn w.heap.size I (pre ++ [x]) W) (a₁ x b) W)
    (hdone : ∀ (D : Nat) (W : World), w.heap.size ≤ D → I xs W → W.heap[D]? = some (.deferred (some [])) → Q .normal { a with defers := { target := .collected D, args := #[] } :: a.defers } W) :
    (Code.rangeFunc g #[p, q] assign body).wpIn Fence.wide n P Q a w := by
  refine wpIn_rangeFunc ?_
  intro fn hfn
  let L : LoopState → Loop := fun st => { state := st, pending := none, fn := fn, tmps := a.tmps, params := #[p, q], assign := assign, body := body, defers := w.heap.size }
  let D := w.heap.size
  let l := w.heap.size + 1
  obtain ⟨W1, hW1⟩ : ∃ W1, W1 = (w.alloc (.deferred (some []))).alloc (.loop (L .ready)) := ⟨_, rfl⟩
  have loopAt : W1.heap[l]? = some (.loop (L .ready)) := by
    have := World.alloc_heap_new (w.alloc (.deferred (some []))) (.loop (L .ready))
    rw [World.size_alloc] at this
    rw [hW1]; exact this
  have markAt : W1.heap[D]? = some (.deferred (some [])) := by
    rw [hW1]; exact (Below.heap_alloc _ _ _ (by simp [D])).trans (World.alloc_heap_new w _)
  let J : List α → World → Prop := fun ys W => I ys W ∧ W.heap[l]? = some (.loop (L .ready)) ∧ W.heap[D]? = some (.deferred (some []))
  have kept : ∀ {W W' : World} {k : Nat} {o : Obj}, W.heap[k]? = some o → Below W.heap.size W W' → W'.heap[k]? = some o := fun h hb => (hb.block _ (Array.getElem?_eq_some_iff.1 h).1).trans h
  refine ⟨l, [{ target := .collected D, args := #[] }], W1, { target := .fn (.func gf) caps, args := #[.func (.yield l) #[] #[]] }, W1, gf, #[.func (.yield l) #[] #[]] ++ caps, W1, ?_, ?_, ?_, ?_, fun _ => h1, ?_⟩
  · rw [hW1]; exact run_enterLoop_outer _ _ _ _ _
  · simp only [resolve, hg]
    simp [go_sem]
  · intro f' hf'; trivial
  · simp [invoke, go_sem, eg]
  · refine (hit l J W1 (fun ys W' h => h.1) (fun ys W' W'' h hb => ⟨hIB _ _ _ h.1 hb, kept h.2.1 hb, kept h.2.2 hb⟩) ?_ ⟨by rw [hW1]; exact hI.alloc _ (hI.alloc _ h0), loopAt, markAt⟩).mono ?_
    · rintro pre x rest W hx ⟨hi, hl, hd⟩
      have hlt : l < W.heap.size := (Array.getElem?_eq_some_iff.1 hl).1
      have hy : (Instr.yield l #[e1 x, e2 x]).run P W = .ok (.round l fn ((a.tmps.setIfInBounds p (e1 x)).setIfInBounds q (e2 x)) assign body) W := by
        have h := run_yield (P := P) (args := #[e1 x, e2 x]) hl rfl
        simpa [L] using h
      refine ⟨fn, _, assign, body, hy, roundIn_of_wpIn hfn ?_⟩
      refine hassign l x W _ ?_
      obtain ⟨hab, hae⟩ := haw x W
      have hi2 := hIB _ _ _ hi hab
      have hl2 := kept hl hab
      have hd2 := kept hd hab
      have hlt2 : l < (aw x W).heap.size := Nat.lt_of_lt_of_le hlt hab.size
      generalize hbN : W.heap.size = bN at *
      refine ⟨_, run_beginRound hl2 rfl, ?_⟩
      have busy : ((aw x W).putObj l (.loop (L .busy))).heap[l]? = some (.loop (L .busy)) := World.putObj_heap_same hlt2
      have mark2 : ((aw x W).putObj l (.loop (L .busy))).heap[D]? = some (.deferred (some [])) := (World.putObj_heap_other (by simp [D, l])).trans hd2
      refine wpIn_mono (hbody l pre x rest bN ((aw x W).putObj l (.loop (L .busy))) hx (hI.putObj _ hi2 (by simp [l]) hl2 rfl) ((hE bN).putObj _ hae (by simp [l]) hl2 rfl)) ?_
      intro e act W3 hp
      cases e with
      | normal =>
        obtain ⟨hk, hi3⟩ := hp
        have hl3 := hk.same l _ (by simp [l]) busy rfl
        have hd3 := hk.same D _ (by simp [D]) mark2 rfl
        exact ⟨_, _, run_endRound (P := P) none hl3, rfl, hI.putObj _ hi3 (by simp [l]) hl3 rfl, World.putObj_heap_same (Array.getElem?_eq_some_iff.1 hl3).1, (World.putObj_heap_other (by simp [D, l])).trans hd3⟩
      | ret => exact hp.elim
      | exit id => exact hp.elim
      | goto t => exact hp.elim
      | panic c => exact hp.elim
      | outgrown => exact hp.elim
    · rintro e W2 ⟨⟨v, rfl⟩, hi, hl, hd⟩
      exact ⟨none, _, run_endLoop (P := P) hl (by simp [L]), hdone D _ (Nat.le_refl _) (hI.putObj _ hi (by simp [l]) hl rfl) ((World.putObj_heap_other (by simp [D, l])).trans hd)⟩
end Go.Proofs.YtceejjgmepaonaaDoor
