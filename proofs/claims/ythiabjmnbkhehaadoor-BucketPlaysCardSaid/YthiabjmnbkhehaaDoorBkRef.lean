/- The document's row of buckets in memory: a struct of a number and two lists; contracts of its New, Label, Count, Highest. -/
import Derived.Test.YthiabjmnbkhehaaDoorBkAwake
namespace Go.Proofs.YthiabjmnbkhehaaDoor
open Go.RowKit Go.ChangeShapes BkPure
def fsts (D : List (Nat × Nat)) : List Int := D.map (fun p => (p.1 : Int))
def snds (D : List (Nat × Nat)) : List Int := D.map (fun p => (p.2 : Int))
/-- At block b the document's row; its lists lie apart from it and from the blocks of T. -/
def RfB (T : Nat → Prop) (b N : Nat) (D : List (Nat × Nat)) (W : World) : Prop :=
  N ≤ 4096 ∧ Once N D ∧ ∃ vV vL, ThreeAt b W (.int .i64 (N : Int)) vV vL ∧ W.ownsRow 0 3 1 vV D.length ((fsts D).map encZ) ∧ W.ownsRow 0 3 1 vL D.length ((snds D).map encZ) ∧
    (∀ k, vV.ownBlock = some k ∨ vL.ownBlock = some k → k ≠ b ∧ ¬ T k) ∧ ¬ T b ∧ (∀ k, T k → k < W.heap.size) ∧ (D = [] → vV = .slice none 0 0 ∧ vL = .slice none 0 0)
section
variable {T : Nat → Prop} {b N : Nat} {D : List (Nat × Nat)} {W W' : World}
theorem RfB.past {O : Nat → Prop} (h : RfB T b N D W) (ht : Turn O W W') (ho : ∀ k, O k → T k) : RfB T b N D W' := by
  obtain ⟨h0, h1, vV, vL, h2, h3, h4, h5, h6, h7, h8⟩ := h
  have l3 := h3.lt
  have l4 := h4.lt
  exact ⟨h0, h1, vV, vL, three_same h2 (ht.2.2.2.2 b h2.lt (fun e => h6 (ho b e))), owns_same h3 (fun k e => ht.2.2.2.2 k (l3 k e).2 (fun e2 => (h5 k (Or.inl e)).2 (ho k e2))), owns_same h4 (fun k e => ht.2.2.2.2 k (l4 k e).2 (fun e2 => (h5 k (Or.inr e)).2 (ho k e2))), h5, h6,
    fun k e => Nat.lt_of_lt_of_le (h7 k e) ht.size, h8⟩
theorem RfB.keep (h : RfB T b N D W) (hb : Below W.heap.size W W') : RfB T b N D W' := h.past (Turn.ofBelow (O := fun _ => False) hb) (fun _ e => e.elim)
theorem RfB.drawn (h : RfB T b N D W) (n : Nat) : RfB T b N D (W.drewN n) := h.keep (below_drewN (Below.refl _ _) n)
theorem RfB.once (h : RfB T b N D W) : N ≤ 4096 ∧ Once N D ∧ D.length ≤ 4096 := ⟨h.1, h.2.1, by have := once_len h.2.1; have := h.1; omega⟩
/-- What is read of the struct, and of each place of both lists. -/
theorem RfB.cells (h : RfB T b N D W) : ∃ q c q' c', (W.cell? ⟨b, 0, none⟩ = some (.int .i64 (N : Int)) ∧ W.cell? ⟨b, 1, none⟩ = some (.slice q D.length c) ∧ W.cell? ⟨b, 2, none⟩ = some (.slice q' D.length c')) ∧ b < W.heap.size ∧
    ∀ W1, Below W.heap.size W W1 → ∀ k, k < D.length → ∃ g g', q = some ⟨g, 0, none⟩ ∧ q' = some ⟨g', 0, none⟩ ∧ (g < W1.heap.size ∧ g' < W1.heap.size) ∧ ∃ p, D[k]? = some p ∧ W1.cell? ⟨g, k, none⟩ = some (.int .i64 (p.1 : Int)) ∧ W1.cell? ⟨g', k, none⟩ = some (.int .i64 (p.2 : Int)) := by
  obtain ⟨h0, h1, vV, vL, h2, h3, h4, h5, h6, h7, h8⟩ := h
  obtain ⟨q, c, rfl⟩ := owns_any h3
  obtain ⟨q', c', rfl⟩ := owns_any h4
  refine ⟨q, c, q', c', ⟨h2.1, h2.2.1, h2.2.2.1⟩, h2.lt, fun W1 hb k hk => ?_⟩
  obtain ⟨g, cap, e, -, hg⟩ := owns_slice h3 (by omega)
  obtain ⟨g', cap', e', -, hg'⟩ := owns_slice h4 (by omega)
  cases e
  cases e'
  have hp := List.getElem?_eq_getElem hk
  refine ⟨g, g', rfl, rfl, ⟨Nat.lt_of_lt_of_le hg hb.size, Nat.lt_of_lt_of_le hg' hb.size⟩, _, hp, ?_, ?_⟩
  · refine ((hb.cell (p := ⟨g, k, none⟩) hg).trans (h3.cellAt k (by omega))).trans ?_
    unfold fsts
    rw [List.getElem?_map, List.getElem?_map, hp]; rfl
  · refine ((hb.cell (p := ⟨g', k, none⟩) hg').trans (h4.cellAt k (by omega))).trans ?_
    unfold snds
    rw [List.getElem?_map, List.getElem?_map, hp]; rfl
theorem lab_cons (p : Nat × Nat) (D : List (Nat × Nat)) (v : Int) : labD (p :: D) v = if (p.1 : Int) = v then (p.2 : Int) else labD D v := rfl
theorem drop_at' {k : Nat} {p : Nat × Nat} (h : D[k]? = some p) : D.drop k = p :: D.drop (k + 1) := by
  obtain ⟨hl, e⟩ := List.getElem?_eq_some_iff.1 h
  rw [List.drop_eq_getElem_cons hl, e]
theorem take_at' {k : Nat} {p : Nat × Nat} (h : D[k]? = some p) : D.take (k + 1) = D.take k ++ [p] := by
  rw [List.take_add_one, h]; rfl
set_option maxHeartbeats 1000000 in
theorem labelR_run (W : World) (v : Int) (h : RfB T b N D W) :
    Calls Tryd.prog 22 #[.pointer (some ⟨b, 0, none⟩), .int .i64 v] W fun e W' => e = .returned (.int .i64 (labD D v)) ∧ W = W' := by
  have hle := h.once.2.2
  obtain ⟨q, c, q', c', ⟨c0, c1, c2⟩, hb, hat⟩ := h.cells
  have HAt := Lib.hid (hat W (Below.refl _ _))
  clear h hat
  go_enter Tryd.func22, Tryd.ntmps22
  go_wp2
  go_loopw [5] (fun i wr => ∃ k : Nat, k ≤ D.length ∧ i = .int .i64 k ∧ Hid (labD (D.drop k) v = labD D v) ∧ W = wr) (fun i _ => D.length - (intOf i).toNat)
  case atStart => exact ⟨0, Nat.zero_le _, rfl, Lib.hid rfl, rfl⟩
  case round =>
    obtain ⟨k, hk, rfl, HK, rfl⟩ := hrel
    have i0 : (0 : Int) ≤ (k : Int) := by omega
    by_cases hlt : k < D.length
    · have i1 : (k : Int) < (D.length : Int) := by omega
      obtain ⟨g, g', rfl, rfl, ⟨hg, hg'⟩, p, hp, d0, d1⟩ := HAt.out k hlt
      have HC : Hid (labD D v = if (p.1 : Int) = v then (p.2 : Int) else labD (D.drop (k + 1)) v) := Lib.hid (by rw [← HK.out, drop_at' hp]; rfl)
      clear hp HK
      by_cases he : (p.1 : Int) = v
      · have HV : Hid (labD D v = (p.2 : Int)) := Lib.hid (by rw [HC.out, if_pos he])
        have t : ((p.1 : Int) == v) = true := by simpa using he
        clear HC he
        generalize (p.1 : Int) = x at *
        generalize (p.2 : Int) = y at *
        go_wp2
        go_ret
        exact ⟨ret_i HV.out.symm, rfl⟩
      · have HV : Hid (labD (D.drop (k + 1)) v = labD D v) := Lib.hid (by rw [HC.out, if_neg he])
        have t : ((p.1 : Int) == v) = false := by simpa using he
        clear HC he
        generalize (p.1 : Int) = x at *
        generalize (p.2 : Int) = y at *
        go_wp2
        go_roundw
        case rel => exact ⟨k + 1, by omega, by go_num, HV, trivial⟩
        case measure => (simp [intOf] <;> omega)
    · have hke : k = D.length := by omega
      have HV : Hid (labD D v = -1) := Lib.hid (by rw [← HK.out, hke, List.drop_length]; rfl)
      have hge : ¬ (k : Int) < (D.length : Int) := by omega
      clear HK hke
      go_wp2
      go_ret
      exact ⟨ret_i HV.out.symm, rfl⟩
theorem cnt_snoc (E : List (Nat × Nat)) (p : Nat × Nat) (l : Int) : cntD (E ++ [p]) l = cntD E l + (if (p.2 : Int) = l then 1 else 0) := by
  unfold cntD
  rw [List.countP_append, List.countP_cons, List.countP_nil]
  simp
theorem cnt_le (E : List (Nat × Nat)) (l : Int) : cntD E l ≤ E.length := List.countP_le_length
set_option maxHeartbeats 1000000 in
theorem countR_run (W : World) (l : Int) (h : RfB T b N D W) :
    Calls Tryd.prog 23 #[.pointer (some ⟨b, 0, none⟩), .int .i64 l] W fun e W' => e = .returned (.int .i64 (cntD D l : Int)) ∧ W = W' := by
  have hle := h.once.2.2
  obtain ⟨q, c, q', c', ⟨c0, c1, c2⟩, hb, hat⟩ := h.cells
  have HAt := Lib.hid (hat W (Below.refl _ _))
  clear h hat
  go_enter Tryd.func23, Tryd.ntmps23
  go_wp2
  go_loopw [5, 6] (fun c i wr => ∃ k : Nat, k ≤ D.length ∧ i = .int .i64 k ∧ c = .int .i64 (cntD (D.take k) l : Int) ∧ W = wr) (fun _ i _ => D.length - (intOf i).toNat)
  case atStart => exact ⟨0, Nat.zero_le _, rfl, rfl, rfl⟩
  case round =>
    obtain ⟨k, hk, rfl, rfl, rfl⟩ := hrel
    have i0 : (0 : Int) ≤ (k : Int) := by omega
    by_cases hlt : k < D.length
    · have i1 : (k : Int) < (D.length : Int) := by omega
      obtain ⟨g, g', rfl, rfl, ⟨hg, hg'⟩, p, hp, d0, d1⟩ := HAt.out k hlt
      have HC : Hid (cntD (D.take (k + 1)) l = cntD (D.take k) l + (if (p.2 : Int) = l then 1 else 0)) := Lib.hid (by rw [take_at' hp]; exact cnt_snoc _ _ _)
      have hcl : cntD (D.take k) l ≤ 4096 := by
        have := cnt_le (D.take k) l
        rw [List.length_take] at this
        omega
      clear hp
      by_cases he : (p.2 : Int) = l
      · have HV : Hid (cntD (D.take (k + 1)) l = cntD (D.take k) l + 1) := Lib.hid (by rw [HC.out, if_pos he])
        have t : ((p.2 : Int) == l) = true := by simpa using he
        clear HC he
        generalize (p.1 : Int) = x at *
        generalize (p.2 : Int) = y at *
        generalize cntD (D.take k) l = cc at *
        go_wp2
        go_roundw
        case rel => exact ⟨k + 1, by omega, by go_num, by rw [HV.out]; go_num, trivial⟩
        case measure => (simp [intOf] <;> omega)
      · have HV : Hid (cntD (D.take (k + 1)) l = cntD (D.take k) l) := Lib.hid (by rw [HC.out, if_neg he]; rfl)
        have t : ((p.2 : Int) == l) = false := by simpa using he
        clear HC he
        generalize (p.1 : Int) = x at *
        generalize (p.2 : Int) = y at *
        generalize cntD (D.take k) l = cc at *
        go_wp2
        go_roundw
        case rel => exact ⟨k + 1, by omega, by go_num, by rw [HV.out], trivial⟩
        case measure => (simp [intOf] <;> omega)
    · have hke : k = D.length := by omega
      have HV : Hid (cntD (D.take k) l = cntD D l) := Lib.hid (by rw [hke, List.take_length])
      have hge : ¬ (k : Int) < (D.length : Int) := by omega
      clear hke
      generalize cntD (D.take k) l = cc at *
      go_wp2
      go_ret
      exact ⟨ret_i (by rw [HV.out]), rfl⟩
theorem roomR_run (n : Int) (w : World) : Calls Tryd.prog 18 #[.int .i64 n] w fun e w' => e = .returned (.int .i64 (R9.roomN n : Int)) ∧ w = w' := R9.roomRef_any n w
theorem newR_run (n : Int) (w : World) (hT : ∀ k, T k → k < w.heap.size) :
    Calls Tryd.prog 7 #[.int .i64 n] w fun e w' => e = .returned (.pointer (some ⟨w.heap.size, 0, none⟩)) ∧ Below w.heap.size w w' ∧ RfB T w.heap.size (R9.roomN n) [] w' := by
  have h4 := R9.roomN_le n
  have HE : Hid (∀ U, Below w.heap.size w (w.alloc (.cells #[.int .i64 (R9.roomN n : Int), .slice none 0 0, .slice none 0 0] U)) ∧ RfB T w.heap.size (R9.roomN n) [] (w.alloc (.cells #[.int .i64 (R9.roomN n : Int), .slice none 0 0, .slice none 0 0] U))) := Lib.hid fun U =>
    ⟨(Below.refl _ _).alloc (Nat.le_refl _) _, h4, once_nil _, _, _, ThreeAt.new _ _ _ _ _, World.ownsRow_nil _ _ _ _, World.ownsRow_nil _ _ _ _, fun k e => by simp [Value.ownBlock] at e, fun e => by have := hT _ e; omega, fun k e => by have := hT k e; simp; omega, fun _ => ⟨rfl, rfl⟩⟩
  have HR := Lib.hid (fun w => roomR_run n w)
  clear hT
  generalize R9.roomN n = m at *
  go_enter Tryd.func7, Tryd.ntmps7
  go_wp2_with (first | (go_at_call 18; refine (HR.out _).mono ?_; rintro e w' ⟨rfl, rfl⟩))
  go_ret
  exact ⟨rfl, HE.out _⟩
end
end Go.Proofs.YthiabjmnbkhehaaDoor
