/- Contract of New of a heap. -/
import Derived.Test.YtndljbkjcgfdcaaHeapPop
namespace Go.Proofs.Ytndljbkjcgfdcaa
open Go.RowKit Go.ChangeShapes NdPure HpPure HeapPure
/-- The room that is made where n is asked for. -/
def roomH (n : Int) : Nat := (min (max n 0) 4096).toNat
theorem roomH_le (n : Int) : roomH n ≤ 4096 := by unfold roomH; omega
theorem roomH_of (n : Nat) (h : n ≤ 4096) : roomH (n : Int) = n := by unfold roomH; omega
def rowH (r k : Nat) : List Int := List.replicate k (-1) ++ List.replicate (r - k) 0
theorem rowH_len {r k : Nat} (h : k ≤ r) : (rowH r k).length = r := by unfold rowH; simp; omega
theorem rowH_set {r k : Nat} (h : k < r) : (rowH r k).set k (-1) = rowH r (k + 1) := by
  unfold rowH
  rw [List.set_append_right _ _ (by simp), List.length_replicate, Nat.sub_self, show r - k = (r - (k + 1)) + 1 by omega, List.replicate_succ, List.set_cons_zero, List.replicate_succ', List.append_assoc]
  rfl
theorem rowH_full (r : Nat) : rowH r r = List.replicate r (-1) := by unfold rowH; simp
/-- A heap as it is made, its first k cells laid. -/
def newM (r k : Nat) : Hp := ⟨emptyS, 0, rowH r k, List.replicate r 0, -1⟩
/-- What is made so far, in whatever order. -/
def Parts (r : Nat) (w : World) (oa oc ok : Option Nat) (W : World) : Prop :=
  Below w.heap.size w W ∧ (∀ x, oa = some x → w.heap.size ≤ x ∧ x < W.heap.size ∧ ArAt (fun k => k = x) x W r emptyS) ∧ (∀ x, oc = some x → w.heap.size ≤ x ∧ x < W.heap.size ∧ RowIs x W (List.replicate r (.int .i64 0))) ∧
    (∀ x, ok = some x → w.heap.size ≤ x ∧ x < W.heap.size ∧ RowIs x W (List.replicate r (.int .i64 0))) ∧ (∀ x, oa = some x → oc ≠ some x ∧ ok ≠ some x) ∧ ∀ x, oc = some x → ok ≠ some x
section
variable {r : Nat} {w W W1 : World} {oa oc ok : Option Nat}
theorem Parts.start : Parts r w none none none w := ⟨Below.refl _ _, fun x e => by simp at e, fun x e => by simp at e, fun x e => by simp at e, fun x e => by simp at e, fun x e => by simp at e⟩
theorem Parts.on (h : Parts r w oa oc ok W) (hb : Below W.heap.size W W1) : Parts r w oa oc ok W1 := by
  obtain ⟨h1, h2, h3, h4, h5, h6⟩ := h
  have hs := hb.size
  exact ⟨h1.trans (hb.mono h1.size), fun x e => ⟨(h2 x e).1, by have := (h2 x e).2.1; omega, (h2 x e).2.2.keep hb⟩, fun x e => ⟨(h3 x e).1, by have := (h3 x e).2.1; omega, (h3 x e).2.2.on hb (h3 x e).2.1⟩, fun x e => ⟨(h4 x e).1, by have := (h4 x e).2.1; omega, (h4 x e).2.2.on hb (h4 x e).2.1⟩, h5, h6⟩
theorem Parts.drew (h : Parts r w oa oc ok W) : Parts r w oa oc ok W.drew := h.on (below_drewN (Below.refl _ _) 1)
theorem Parts.addC {x : Nat} {T : TypeId} (hx : x = W.heap.size) (h : Parts r w oa none ok W) : Parts r w oa (some x) ok (W.alloc (.cells (madeCells #[.int .i64 0] r) T)) := by
  subst hx
  obtain ⟨h1, h2, h3, h4, h5, h6⟩ := h.on ((Below.refl _ W).alloc (Nat.le_refl _) (.cells (madeCells #[.int .i64 0] r) T))
  obtain ⟨g1, g2, -, g4, -⟩ := h
  refine ⟨h1, h2, fun x e => ?_, h4, fun x e => ⟨fun e2 => ?_, (h5 x e).2⟩, fun x e e2 => ?_⟩
  · cases e
    exact ⟨g1.size, by simp, rowIs_made W _ r T⟩
  · cases e2
    have := (g2 _ e).2.1
    omega
  · cases e
    have := (g4 _ e2).2.1
    omega
theorem Parts.addK {x : Nat} {T : TypeId} (hx : x = W.heap.size) (h : Parts r w oa oc none W) : Parts r w oa oc (some x) (W.alloc (.cells (madeCells #[.int .i64 0] r) T)) := by
  subst hx
  obtain ⟨h1, h2, h3, h4, h5, h6⟩ := h.on ((Below.refl _ W).alloc (Nat.le_refl _) (.cells (madeCells #[.int .i64 0] r) T))
  obtain ⟨g1, g2, g3, -, -⟩ := h
  refine ⟨h1, h2, h3, fun x e => ?_, fun x e => ⟨(h5 x e).1, fun e2 => ?_⟩, fun x e e2 => ?_⟩
  · cases e
    exact ⟨g1.size, by simp, rowIs_made W _ r T⟩
  · cases e2
    have := (g2 _ e).2.1
    omega
  · cases e2
    have := (g3 _ e).2.1
    omega
theorem Parts.addA {x : Nat} (hx : x = W.heap.size) (hc : Below W.heap.size W W1 ∧ W.heap.size < W1.heap.size ∧ ArAt (fun k => k = W.heap.size) W.heap.size W1 r emptyS) (h : Parts r w none oc ok W) : Parts r w (some x) oc ok W1 := by
  subst hx
  obtain ⟨h1, h2, h3, h4, h5, h6⟩ := h.on hc.1
  obtain ⟨g1, -, g3, g4, -⟩ := h
  refine ⟨h1, fun x e => ?_, h3, h4, fun x e => ⟨fun e2 => ?_, fun e2 => ?_⟩, h6⟩
  · cases e
    exact ⟨g1.size, hc.2.1, hc.2.2⟩
  · cases e
    have := (g3 _ e2).2.1
    omega
  · cases e
    have := (g4 _ e2).2.1
    omega
/-- All parts, and the struct behind them. -/
theorem Parts.done {ba gC gK b : Nat} {T : TypeId} (hb : b = W.heap.size) (h : Parts r w (some ba) (some gC) (some gK) W) :
    Hs (fun _ => False) ⟨b, gC, gK, ba⟩ w (newM r 0) (W.alloc (.cells #[.pointer (some ⟨ba, 0, none⟩), .int .i64 0, .slice (some ⟨gC, 0, none⟩) r r, .slice (some ⟨gK, 0, none⟩) r r, .int .i64 (-1)] T)) := by
  subst hb
  have h' := h.on ((Below.refl _ W).alloc (Nat.le_refl _) (.cells #[.pointer (some ⟨ba, 0, none⟩), .int .i64 0, .slice (some ⟨gC, 0, none⟩) r r, .slice (some ⟨gK, 0, none⟩) r r, .int .i64 (-1)] T))
  obtain ⟨g1, g2, g3, g4, g5, g6⟩ := h
  obtain ⟨h1, h2, h3, h4, h5, h6⟩ := h'
  have a1 := (g2 _ rfl).2.1
  have a2 := (g3 _ rfl).2.1
  have a3 := (g4 _ rfl).2.1
  have b1 := (g2 _ rfl).1
  have b2 := (g3 _ rfl).1
  have b3 := (g4 _ rfl).1
  have c1 := g5 _ rfl
  have c2 := g6 _ rfl
  have hl : (newM r 0).C.length = r := rowH_len (Nat.zero_le _)
  have d1 : ba ≠ gC := fun e => c1.1 (by rw [e])
  have d2 : ba ≠ gK := fun e => c1.2 (by rw [e])
  have d3 : gC ≠ gK := fun e => c2 (by rw [e])
  have e1 : (rowH r 0).map encZ = List.replicate r (.int .i64 0) := by unfold rowH; simp [encZ]
  have e2 : (List.replicate r (0 : Int)).map encZ = List.replicate r (.int .i64 0) := by simp [encZ]
  refine ⟨⟨h1.os, h1.tape, h1.output, h1.size, fun k hk _ => h1.block k hk⟩, fun k => k = W.heap.size ∨ k = gC ∨ k = gK ∨ k = ba, fun k e => ?_, fun k => k = ba, ?_, ?_, ?_, ?_, ?_, ⟨(h3 _ rfl).2.1, (h4 _ rfl).2.1⟩, ?_, fun k => Iff.rfl⟩
  · right
    have := g1.size
    rcases e with e | e | e | e <;> omega
  · rw [hl]
    intro i hi
    match i, hi with
    | 0, _ => exact ⟨by simp, by simp⟩
    | 1, _ => exact ⟨by simp [newM], by simp⟩
    | 2, _ => exact ⟨by simp, by simp⟩
    | 3, _ => exact ⟨by simp, by simp⟩
    | 4, _ => exact ⟨by simp [newM], by simp⟩
  · rw [hl]; exact (h2 _ rfl).2.2
  · show RowIs gC _ ((rowH r 0).map encZ)
    rw [e1]; exact (h3 _ rfl).2.2
  · show RowIs gK _ ((List.replicate r (0 : Int)).map encZ)
    rw [e2]; exact (h4 _ rfl).2.2
  · rw [hl]; simp [newM]
  · exact ⟨fun e => by have e : W.heap.size = ba := e; omega, fun e => d1 (by rw [show gC = ba from e]), fun e => d2 (by rw [show gK = ba from e]), by show W.heap.size ≠ gC; omega, by show W.heap.size ≠ gK; omega, d3⟩
end
theorem new_good (r : Nat) (hr : r ≤ 4096) : GoodH (newM r r) (List.replicate r none) := by
  have hG : ∀ c, ¬ G emptyS c := fun c h => by
    obtain ⟨k, -, hk, -⟩ := has_yes h
    simp [emptyS] at hk
  refine ⟨⟨?_, ?_, fun v k hk => ?_, fun v hv => ?_, fun c hc => absurd hc (hG c), ?_⟩, by simpa using hr, fun _ => [], ⟨fun p c hc => by simp at hc, fun p q c hc => by simp at hc, fun p => List.nodup_nil, fun p c hc => by simp at hc, fun p hp => absurd hp (hG p), fun p => trivial⟩, fun x => ⟨fun h => absurd h.1 (hG x), fun h => absurd h.1 h.2⟩⟩
  · simp [newM, rowH_len]
  · simp [newM]
  · have := List.mem_of_getElem? hk
    rw [List.mem_replicate] at this
    cases this.2
  · have hv' := (List.getElem?_eq_some_iff.1 hv).1
    show (rowH r r)[v]? = some (-1)
    rw [rowH_full, List.getElem?_replicate, if_pos (by simpa using hv')]
  · show liveN emptyS = lenA (List.replicate r none)
    unfold lenA
    rw [List.countP_replicate]
    rfl
theorem make_ints (k : Nat) (hk : k ≤ 1000000) (w : World) :
    (Instr.makeSlice 50 (.int .i64 (k : Int)) (.int .i64 (k : Int))).run Try.prog w = .ok (.slice (some ⟨w.heap.size, 0, none⟩) k k) (w.alloc (.cells (madeCells #[.int .i64 0] k) 3)) :=
  makeRow Try.underlying50 (z := .int .i64 0) (c := 8) (by kernel_rfl) (by omega) rfl k hk w
theorem make_ints64 (k : Nat) (hk : k ≤ 1000000) (w : World) :
    (Instr.makeSlice 30 (.int .i64 (k : Int)) (.int .i64 (k : Int))).run Try.prog w = .ok (.slice (some ⟨w.heap.size, 0, none⟩) k k) (w.alloc (.cells (madeCells #[.int .i64 0] k) 2)) :=
  makeRow Try.underlying30 (z := .int .i64 0) (c := 8) (by kernel_rfl) (by omega) rfl k hk w
set_option maxRecDepth 100000 in
set_option maxHeartbeats 4000000 in
theorem newH_run (n : Int) (w : World) :
    Calls Try.prog 7 #[.int .i64 n] w fun e w' => ∃ B : Bl, e = .returned (.pointer (some ⟨B.b, 0, none⟩)) ∧ HpIs (fun _ => False) B w (List.replicate (roomH n) none) 0 w' := by
  obtain ⟨r, hr⟩ : ∃ r, r = roomH n := ⟨_, rfl⟩
  have hr4 := roomH_le n
  rw [← hr] at hr4 ⊢
  have HR := Lib.hid hr
  clear hr
  go_enter Try.func7, Try.ntmps7
  go_upto_region 1 with fail
  go_cut [0] from 5 to 7 (fun v wx => v = .int .i64 (r : Int) ∧ w = wx)
  case first =>
    by_cases a : n < 0
    · have hz : r = 0 := by rw [HR.out]; unfold roomH; omega
      have a1 : max n 0 = 0 := by omega
      go_wp2_with fail
      go_meet
      case rel => exact ⟨by rw [hz]; rfl, rfl⟩
    · by_cases c : 4096 < n
      · have hz : r = 4096 := by rw [HR.out]; unfold roomH; omega
        have a1 : ¬ max n 0 < 4096 := by omega
        go_wp2_with fail
        go_meet
        case rel => exact ⟨by rw [hz]; rfl, rfl⟩
      · have hz : n = (r : Int) := by rw [HR.out]; unfold roomH; omega
        clear HR
        subst hz
        go_wp2_with fail
        go_meet
        case rel => exact ⟨rfl, rfl⟩
  case rest =>
    obtain ⟨rfl, rfl⟩ := hcut
    have hm1 := make_ints r (by omega)
    have hm2 := make_ints64 r (by omega)
    have HRM : Hid (NdPure.roomN (r : Int) = r) := Lib.hid (by unfold NdPure.roomN; omega)
    go_upto_region 2 with fail
    go_cut [3] from 8 to 16 (fun v wx => ∃ B : Bl, v = .pointer (some ⟨B.b, 0, none⟩) ∧ Hid (Hs (fun _ => False) B w (newM r 0) wx))
    case first =>
      go_region_with (go_at_call 21; refine (new_any (r : Int) _).mono ?_; rintro e w1 ⟨rfl, hb1, hl1, ha1⟩; rw [HRM.out] at ha1; have HB1 := Lib.hid (And.intro hb1 (And.intro hl1 ha1)); clear hb1 hl1 ha1)
      all_goals (go_wp2_with fail; go_meet)
      all_goals
        refine ⟨⟨_, _, _, _⟩, rfl, Lib.hid (Parts.done ?_ ?_)⟩
        · simp
        · repeat (first
            | exact Parts.start
            | refine Parts.drew ?_
            | refine Parts.addC (T := 3) (by simp) ?_
            | refine Parts.addK (T := 2) (by simp) ?_
            | refine Parts.addA (by simp) HB1.out ?_)
    case rest =>
      obtain ⟨B, rfl, HC⟩ := hcut
      clear hm1 hm2 HRM
      go_wp2
      go_loopw [18] (fun i wr => ∃ k : Nat, i = .int .i64 k ∧ k ≤ r ∧ Hid (Hs (fun _ => False) B w (newM r k) wr)) (fun i _ => r - (intOf i).toNat)
      case atStart => exact ⟨0, rfl, Nat.zero_le _, HC⟩
      case round =>
        obtain ⟨k, rfl, hk, HK⟩ := hrel
        have i0 : (0 : Int) ≤ (k : Int) := by omega
        by_cases hlt : k < r
        · have i1 : (k : Int) < (r : Int) := by omega
          have hlen : (newM r k).C.length = r := rowH_len hk
          obtain ⟨⟨-, -, c2, -⟩, -, ⟨hb, hgC, -⟩, -⟩ := HK.out.cells
          rw [hlen] at c2
          obtain ⟨d1, d2⟩ := HK.out.getC (i := k) (by rw [hlen]; exact hlt)
          generalize (newM r k).C[k]'(by rw [hlen]; exact hlt) = z at *
          have HN : Hid (Hs (fun _ => False) B w (newM r (k + 1)) (wr.setCell ⟨B.gC, k, none⟩ (.int .i64 (-1)))) := Lib.hid (by
            have := HK.out.layC (i := k) (by rw [hlen]; exact hlt) (-1)
            rw [show (newM r k).C.set k (-1) = rowH r (k + 1) from rowH_set hlt] at this
            exact this)
          clear HK hlen
          go_wp2
          go_roundw
          case rel => exact ⟨k + 1, by go_num, by omega, HN⟩
          case measure => (simp [intOf] <;> omega)
        · have hke : k = r := by omega
          subst hke
          have HF : Hid (HpIs (fun _ => False) B w (List.replicate k none) 0 wr) := Lib.hid ⟨_, HK.out, new_good k hr4, rfl, Int.le_refl 0⟩
          clear HK
          go_wp2
          go_ret
          exact ⟨B, rfl, HF.out⟩
end Go.Proofs.Ytndljbkjcgfdcaa
