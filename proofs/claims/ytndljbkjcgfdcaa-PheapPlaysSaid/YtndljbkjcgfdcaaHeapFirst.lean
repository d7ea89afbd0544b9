/- Contracts of the document's heap: First, Pop, Room, New. -/
import Derived.Test.YtndljbkjcgfdcaaHeapRef
namespace Go.Proofs.Ytndljbkjcgfdcaa
open Go.RowKit Go.ChangeShapes NdPure HpPure HeapPure
def vR (r : Option (Nat × Int)) : Int := match r with | none => 0 | some (m, _) => (m : Int)
def kR (r : Option (Nat × Int)) : Int := match r with | none => 0 | some (_, y) => y
theorem vR_top (A : List (Option Int)) : vR (firstA A) = topV A := by unfold vR topV; cases firstA A <;> rfl
theorem kR_top (A : List (Option Int)) : kR (firstA A) = topK A := by unfold kR topK; cases firstA A <;> rfl
/-- While the first one is looked for: the result's place, and the first one so far. -/
def FirstAt (W : World) (B2 Bt : Nat) (v k : Int) (o : Bool) (wr : World) : Prop :=
  Below W.heap.size W wr ∧ (W.heap.size ≤ B2 ∧ W.heap.size ≤ Bt ∧ B2 ≠ Bt) ∧ ThreeAt B2 wr (.int .i64 0) (.int .i64 0) (.bool false) ∧ ThreeAt Bt wr (.int .i64 v) (.int .i64 k) (.bool o)
section
variable {W wr : World} {B2 Bt : Nat} {v k : Int} {o : Bool}
theorem three_keep {b : Nat} {w w' : World} {u v x : Value} (h : ThreeAt b w u v x) (hk : w'.heap[b]? = w.heap[b]?) : ThreeAt b w' u v x := by
  obtain ⟨h0, h1, h2, f0, f1, f2⟩ := h
  exact ⟨(World.cell?_of_block hk).trans h0, (World.cell?_of_block hk).trans h1, (World.cell?_of_block hk).trans h2, (World.frozen?_of_block hk).trans f0, (World.frozen?_of_block hk).trans f1, (World.frozen?_of_block hk).trans f2⟩
theorem first_start (W : World) (T : TypeId) : FirstAt W W.heap.size (W.heap.size + 1) 0 0 false ((W.alloc (.cells #[.int .i64 0, .int .i64 0, .bool false] T)).alloc (.cells #[.int .i64 0, .int .i64 0, .bool false] T)) := by
  have h1 := ThreeAt.new W (.int .i64 0) (.int .i64 0) (.bool false) T
  have b1 := (Below.refl W.heap.size W).alloc (Nat.le_refl _) (.cells #[.int .i64 0, .int .i64 0, .bool false] T)
  generalize hW : W.alloc (.cells #[.int .i64 0, .int .i64 0, .bool false] T) = W1 at *
  have s1 : W1.heap.size = W.heap.size + 1 := by rw [← hW]; simp
  have h2 := ThreeAt.new W1 (.int .i64 0) (.int .i64 0) (.bool false) T
  have b2 := (Below.refl W1.heap.size W1).alloc (Nat.le_refl _) (.cells #[.int .i64 0, .int .i64 0, .bool false] T)
  rw [s1] at h2
  exact ⟨b1.trans (b2.mono (by omega)), ⟨Nat.le_refl _, by omega, by omega⟩, h1.on b2 (by omega), h2⟩
theorem FirstAt.drawn (h : FirstAt W B2 Bt v k o wr) (n : Nat) : FirstAt W B2 Bt v k o (wr.drewN n) := by
  obtain ⟨h1, h2, h3, h4⟩ := h
  exact ⟨below_drewN h1 n, h2, three_keep h3 rfl, three_keep h4 rfl⟩
theorem FirstAt.set (h : FirstAt W B2 Bt v k o wr) (v' k' : Int) (o' : Bool) : FirstAt W B2 Bt v' k' o' (((wr.setCell ⟨Bt, 0, none⟩ (.int .i64 v')).setCell ⟨Bt, 1, none⟩ (.int .i64 k')).setCell ⟨Bt, 2, none⟩ (.bool o')) := by
  obtain ⟨h1, h2, h3, h4⟩ := h
  exact ⟨((h1.setCell (p := ⟨Bt, 0, none⟩) h2.2.1 _).setCell (p := ⟨Bt, 1, none⟩) h2.2.1 _).setCell (p := ⟨Bt, 2, none⟩) h2.2.1 _, h2, three_keep h3 ((cell_other h2.2.2).trans ((cell_other h2.2.2).trans (cell_other h2.2.2))), h4.set _ _ _⟩
theorem FirstAt.cells (h : FirstAt W B2 Bt v k o wr) : (wr.cell? ⟨Bt, 0, none⟩ = some (.int .i64 v) ∧ wr.cell? ⟨Bt, 1, none⟩ = some (.int .i64 k) ∧ wr.cell? ⟨Bt, 2, none⟩ = some (.bool o)) ∧ (wr.frozen? ⟨Bt, 0, none⟩ = false ∧ wr.frozen? ⟨Bt, 1, none⟩ = false ∧ wr.frozen? ⟨Bt, 2, none⟩ = false) ∧
    (wr.cell? ⟨B2, 0, none⟩ = some (.int .i64 0) ∧ wr.cell? ⟨B2, 1, none⟩ = some (.int .i64 0) ∧ wr.cell? ⟨B2, 2, none⟩ = some (.bool false)) ∧ (wr.frozen? ⟨B2, 0, none⟩ = false ∧ wr.frozen? ⟨B2, 1, none⟩ = false ∧ wr.frozen? ⟨B2, 2, none⟩ = false) ∧ (Bt < wr.heap.size ∧ B2 < wr.heap.size ∧ B2 ≠ Bt ∧ Bt ≠ B2) := by
  obtain ⟨h1, h2, h3, h4⟩ := h
  exact ⟨⟨h4.1, h4.2.1, h4.2.2.1⟩, h4.2.2.2, ⟨h3.1, h3.2.1, h3.2.2.1⟩, h3.2.2.2, h4.lt, h3.lt, h2.2.2, fun e => h2.2.2 e.symm⟩
/-- The result is laid. -/
theorem FirstAt.end (h : FirstAt W B2 Bt v k o wr) (v' k' : Int) (o' : Bool) : Below W.heap.size W (((wr.setCell ⟨B2, 0, none⟩ (.int .i64 v')).setCell ⟨B2, 1, none⟩ (.int .i64 k')).setCell ⟨B2, 2, none⟩ (.bool o')) :=
  ((h.1.setCell (p := ⟨B2, 0, none⟩) h.2.1.1 _).setCell (p := ⟨B2, 1, none⟩) h.2.1.1 _).setCell (p := ⟨B2, 2, none⟩) h.2.1.1 _
end
section
variable {R : Rb} {W W' : World} {A : List (Option Int)}
theorem firstUp_next {A : List (Option Int)} {k : Nat} (h : k < A.length) : firstUp A (k + 1) = match A[k] with | none => firstUp A k | some x => better (firstUp A k) k x := by
  have hg : A.getD k none = A[k] := by rw [List.getD_eq_getElem?_getD, List.getElem?_eq_getElem h]; rfl
  rw [← hg]; rfl
set_option maxRecDepth 100000 in
set_option maxHeartbeats 4000000 in
theorem firstR_run (W : World) (h : RfAt R W A) :
    Calls Try.prog 27 #[.pointer (some ⟨R.b, 0, none⟩)] W fun e W' => e = .returned (.agg #[.int .i64 (topV A), .int .i64 (topK A), .bool (topB A)]) ∧ Below W.heap.size W W' := by
  have HR := Lib.hid h
  have hle := h.1
  have HS := Lib.hid (first_start W 55)
  have HB : Hid (W.heap.size ≤ W.heap.size ∧ W.heap.size ≤ W.heap.size + 1) := Lib.hid ⟨Nat.le_refl _, Nat.le_succ _⟩
  clear h
  go_enter Try.func27, Try.ntmps27
  go_wp2_with fail
  generalize hB2 : W.heap.size = B2 at *
  have HB2 := Lib.hid hB2
  clear hB2
  generalize hBt : B2 + 1 = Bt at *
  have HBt := Lib.hid hBt
  clear hBt
  go_loopw [4] (fun i wr => ∃ k : Nat, k ≤ A.length ∧ i = .int .i64 k ∧ Hid (FirstAt W B2 Bt (vR (firstUp A k)) (kR (firstUp A k)) (firstUp A k).isSome wr)) (fun i _ => A.length - (intOf i).toNat)
  case atStart => exact ⟨0, Nat.zero_le _, rfl, HS⟩
  case round =>
    obtain ⟨k, hk, rfl, HK⟩ := hrel
    clear HS
    have i0 : (0 : Int) ≤ (k : Int) := by omega
    obtain ⟨⟨y0, y1, y2⟩, ⟨f0, f1, f2⟩, ⟨z0, z1, z2⟩, ⟨g0, g1, g2⟩, hBt, hB2, n1, n2⟩ := HK.out.cells
    have hrw := HR.out.keep HK.out.1
    obtain ⟨⟨c0, c1⟩, ⟨hb, hI, hY⟩, -⟩ := hrw.cells
    by_cases hlt : k < A.length
    · have i1 : (k : Int) < (A.length : Int) := by omega
      have hu : A[k]? = some A[k] := List.getElem?_eq_getElem hlt
      obtain ⟨⟨d0, -⟩, q, d1, -, hq⟩ := hrw.get hu
      have HN := Lib.hid (firstUp_next hlt)
      cases ho : A[k] with
      | none =>
        rw [ho] at d0 HN
        replace d0 : wr.cell? ⟨R.gI, k, none⟩ = some (.bool false) := d0
        have HF : Hid (FirstAt W B2 Bt (vR (firstUp A (k + 1))) (kR (firstUp A (k + 1))) (firstUp A (k + 1)).isSome wr) := Lib.hid (by rw [HN.out]; exact HK.out)
        clear HK hrw hu ho hq d1 HN
        generalize vR (firstUp A k) = v at *
        generalize kR (firstUp A k) = x at *
        generalize (firstUp A k).isSome = o at *
        go_wp2_with fail
        go_quiet (fail)
        go_wp2
        go_roundw
        case rel => exact ⟨k + 1, by omega, by go_num, Lib.hid (HF.out.drawn _)⟩
        case measure => (simp [intOf] <;> omega)
      | some x =>
        rw [ho] at d0 HN
        obtain rfl := hq x ho
        replace d0 : wr.cell? ⟨R.gI, k, none⟩ = some (.bool true) := d0
        have HF : Hid (∀ wz, FirstAt W B2 Bt (k : Int) q true wz → better (firstUp A k) k q = some (k, q) → FirstAt W B2 Bt (vR (firstUp A (k + 1))) (kR (firstUp A (k + 1))) (firstUp A (k + 1)).isSome wz) := Lib.hid (fun wz h e => by rw [show firstUp A (k + 1) = some (k, q) from HN.out.trans e]; exact h)
        cases hr : firstUp A k with
        | none =>
          rw [hr] at HK HF y0 y1 y2 HN
          replace y0 : wr.cell? ⟨Bt, 0, none⟩ = some (.int .i64 0) := y0
          replace y1 : wr.cell? ⟨Bt, 1, none⟩ = some (.int .i64 0) := y1
          replace y2 : wr.cell? ⟨Bt, 2, none⟩ = some (.bool false) := y2
          have HG : Hid (∀ n, FirstAt W B2 Bt (vR (firstUp A (k + 1))) (kR (firstUp A (k + 1))) (firstUp A (k + 1)).isSome ((((wr.drewN n).setCell ⟨Bt, 0, none⟩ (.int .i64 (k : Int))).setCell ⟨Bt, 1, none⟩ (.int .i64 q)).setCell ⟨Bt, 2, none⟩ (.bool true))) := Lib.hid fun n => HF.out _ ((HK.out.drawn n).set _ _ _) rfl
          clear HK HF hrw hu ho hq HN hr
          go_wp2_with fail
          go_quiet (fail)
          go_wp2
          go_roundw
          case rel => exact ⟨k + 1, by omega, by go_num, Lib.hid (HG.out _)⟩
          case measure => (simp [intOf] <;> omega)
        | some p =>
          obtain ⟨m, y⟩ := p
          rw [hr] at HK HF y0 y1 y2 HN
          replace y0 : wr.cell? ⟨Bt, 0, none⟩ = some (.int .i64 m) := y0
          replace y1 : wr.cell? ⟨Bt, 1, none⟩ = some (.int .i64 y) := y1
          replace y2 : wr.cell? ⟨Bt, 2, none⟩ = some (.bool true) := y2
          by_cases hx : y < q
          · have t3 : decide (y < q) = true := decide_eq_true hx
            have HG : Hid (∀ n, FirstAt W B2 Bt (vR (firstUp A (k + 1))) (kR (firstUp A (k + 1))) (firstUp A (k + 1)).isSome ((((wr.drewN n).setCell ⟨Bt, 0, none⟩ (.int .i64 (k : Int))).setCell ⟨Bt, 1, none⟩ (.int .i64 q)).setCell ⟨Bt, 2, none⟩ (.bool true))) := Lib.hid fun n => HF.out _ ((HK.out.drawn n).set _ _ _) (if_pos hx)
            clear HK HF hrw hu ho hq HN hr
            go_wp2_with fail
            go_quiet (fail)
            go_wp2
            go_roundw
            case rel => exact ⟨k + 1, by omega, by go_num, Lib.hid (HG.out _)⟩
            case measure => (simp [intOf] <;> omega)
          · have t3 : decide (y < q) = false := decide_eq_false hx
            have HG : Hid (∀ n, FirstAt W B2 Bt (vR (firstUp A (k + 1))) (kR (firstUp A (k + 1))) (firstUp A (k + 1)).isSome (wr.drewN n)) := Lib.hid fun n => by
              rw [show firstUp A (k + 1) = some (m, y) from HN.out.trans (if_neg hx)]
              exact HK.out.drawn n
            clear HK HF hrw hu ho hq HN hr
            go_wp2_with fail
            go_quiet (fail)
            go_wp2
            go_roundw
            case rel => exact ⟨k + 1, by omega, by go_num, Lib.hid (HG.out _)⟩
            case measure => (simp [intOf] <;> omega)
    · have hke : k = A.length := by omega
      subst hke
      have HE := Lib.hid (fun a b c => HK.out.end a b c)
      have H1 : Hid (vR (firstUp A A.length) = topV A) := Lib.hid (vR_top A)
      have H2 : Hid (kR (firstUp A A.length) = topK A) := Lib.hid (kR_top A)
      have H3 : Hid ((firstUp A A.length).isSome = topB A) := Lib.hid rfl
      clear HK hrw
      generalize vR (firstUp A A.length) = v at *
      generalize kR (firstUp A A.length) = x at *
      generalize (firstUp A A.length).isSome = o at *
      have hge : ¬ (A.length : Int) < (A.length : Int) := by omega
      go_wp2
      exact bodyPost_ret (v := .agg #[.int .i64 v, .int .i64 x, .bool o]) (by simp [results, Try.results27, go_sem, z0, z1, z2, hB2]) rfl ⟨by rw [H1.out, H2.out, H3.out], HE.out _ _ _⟩
end
end Go.Proofs.Ytndljbkjcgfdcaa
