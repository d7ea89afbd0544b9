/- Contracts of countSplit and Split. -/
import Derived.Test.YtbkcjbknoljogaaEdCode
import Derived.Maps.AppendAt
namespace Go.Proofs.Ytbkcjbknoljogaa
open Go.RowKit Go.ChangeShapes EdPure NumPure
theorem ret_n2 {a b : Int} {c d : Bool} (h1 : a = b) (h2 : c = d) : Ending.returned (.tuple #[.int .i64 a, .bool c]) = .returned (.tuple #[.int .i64 b, .bool d]) := by rw [h1, h2]
theorem three_same {b : Nat} {w w' : World} {u v x : Value} (h : ThreeAt b w u v x) (hk : w'.heap[b]? = w.heap[b]?) : ThreeAt b w' u v x := by
  obtain ⟨h0, h1, h2, f0, f1, f2⟩ := h
  exact ⟨(World.cell?_of_block hk).trans h0, (World.cell?_of_block hk).trans h1, (World.cell?_of_block hk).trans h2, (World.frozen?_of_block hk).trans f0, (World.frozen?_of_block hk).trans f1, (World.frozen?_of_block hk).trans f2⟩
def cntR (l : List Ed) : Nat := if splitB l = true then cntL l else 0
def CntRel (w : World) (l : List Ed) (k : Nat) (wr : World) : Prop := k ≤ l.length ∧ Below w.heap.size w wr ∧ (∀ j (hj : j < l.length), j < k → 0 ≤ l[j].2.2) ∧ cntL (l.take k) ≤ 1048576
theorem CntRel.next {w wr w' : World} {l : List Ed} {k : Nat} (h : CntRel w l k wr) (hk : k < l.length) (h0 : 0 ≤ l[k].2.2) (hb : Below w.heap.size w w') (hc : cntL (l.take (k + 1)) ≤ 1048576) : CntRel w l (k + 1) w' := by
  refine ⟨hk, hb, fun j hj hlt => ?_, hc⟩
  by_cases e : j = k
  · subst e; exact h0
  · exact h.2.2.1 j hj (by omega)
set_option maxHeartbeats 800000 in
theorem countSplit_any (a : Option Addr) (c : Nat) (l : List Ed) (hl : l.length ≤ 1048576) (hI : InL l) (w : World) (hR : ReadsE w.heap.size w a l) :
    Calls Try.prog 37 #[.slice a l.length c] w fun e w' => e = .returned (.tuple #[.int .i64 (cntR l : Int), .bool (splitB l)]) ∧ Below w.heap.size w w' := by
  have HR := Lib.hid hR
  have HI := Lib.hid hI
  clear hR hI
  go_enter Try.func37, Try.ntmps37
  go_wp2
  go_loopw [4, 9] (fun s i wr => ∃ (k : Nat) (C : Int), s = .int .i64 C ∧ i = .int .i64 k ∧ Hid (CntRel w l k wr ∧ (cntL (l.take k) : Int) = C)) (fun _ i _ => l.length - (intOf i).toNat)
  case atStart => exact ⟨0, 0, rfl, rfl, Lib.hid ⟨⟨Nat.zero_le _, Below.refl _ _, fun j _ h => by omega, by simp [cntL]⟩, by simp [cntL]⟩⟩
  case round =>
    obtain ⟨k, C, rfl, rfl, HK⟩ := hrel
    have i0 : (0 : Int) ≤ (k : Int) := by omega
    have hC : C ≤ 1048576 := by have := HK.out.1.2.2.2; have := HK.out.2; omega
    have hC0 : 0 ≤ C := by have := HK.out.2; omega
    by_cases hlt : k < l.length
    · have i1 : (k : Int) < (l.length : Int) := by omega
      obtain ⟨u, v, x, he⟩ : ∃ u v x, l[k] = (u, v, x) := ⟨_, _, _, rfl⟩
      obtain ⟨b, off, rfl, hbw, hbr, c0, c1, c2⟩ := HR.out.cells hlt HK.out.1.2.1 he
      have hin : In x := by have := (HI.out.at hlt).2.2; rwa [he] at this
      unfold In at hin
      have HB : Hid (Below w.heap.size w (wr.alloc (.cells #[.int .i64 u, .int .i64 v, .int .i64 x] 24))) := Lib.hid (HK.out.1.2.1.alloc HK.out.1.2.1.size _)
      have HE := Lib.hid he
      clear he
      by_cases hx : x < 0
      · have HX : Hid (splitB l = false) := Lib.hid (splitB_low hlt (by rw [HE.out]; exact hx))
        have HX2 : Hid ((cntR l : Int) = 0) := Lib.hid (by unfold cntR; rw [HX.out]; rfl)
        go_wp2
        go_ret2
        exact ⟨ret_n2 HX2.out.symm HX.out.symm, HB.out⟩
      · obtain ⟨q, hq⟩ : ∃ q : Int, q = (quoE (u, v, x) : Int) := ⟨_, rfl⟩
        have hst : (cntL (l.take (k + 1)) : Int) = C + (q + 1) := by rw [cnt_take hlt, HE.out, hq, ← HK.out.2]; omega
        have hqq : (max (x - 1) 0) / 2147483648 = q := by
          rw [hq]; unfold quoE; simp only; omega
        have hqb : q ≤ 4294967296 := by omega
        have hq0 : 0 ≤ q := by omega
        have HST := Lib.hid hst
        clear hq hst
        have hx0 : 0 ≤ x := by omega
        have HX0 := Lib.hid hx0
        by_cases hm : C + (q + 1) ≤ 1048576
        · have HN : Hid (CntRel w l (k + 1) (wr.alloc (.cells #[.int .i64 u, .int .i64 v, .int .i64 x] 24))) := Lib.hid (HK.out.1.next hlt (by rw [HE.out]; exact HX0.out) HB.out (by have := HST.out; omega))
          go_wp2
          go_roundw
          case rel => exact ⟨k + 1, C + (q + 1), rfl, by go_num, Lib.hid ⟨HN.out, HST.out⟩⟩
          case measure => (simp [intOf]; omega)
        · have HX : Hid (splitB l = false) := Lib.hid (splitB_many (k + 1) (by have := HST.out; omega))
          have HX2 : Hid ((cntR l : Int) = 0) := Lib.hid (by unfold cntR; rw [HX.out]; rfl)
          go_wp2
          go_ret2
          exact ⟨ret_n2 HX2.out.symm HX.out.symm, HB.out⟩
    · have hk : k = l.length := by have := HK.out.1.1; omega
      subst hk
      have HX : Hid (splitB l = true) := Lib.hid (splitB_yes (fun e he => by
        obtain ⟨j, hj, rfl⟩ := List.getElem_of_mem he
        exact HK.out.1.2.2.1 j hj hj) (by have := HK.out.1.2.2.2; rwa [List.take_length] at this))
      have HX2 : Hid ((cntR l : Int) = C) := Lib.hid (by unfold cntR; rw [HX.out, if_pos rfl, ← HK.out.2, List.take_length])
      go_wp2
      go_ret2
      exact ⟨ret_n2 HX2.out.symm HX.out.symm, HK.out.1.2.1⟩
theorem owns_other {w : World} {B : Nat} {e : TypeId} {size n : Nat} {v : Value} {xs : List Value} (h : w.ownsRow B e size v n xs) {p : Addr} (hp : v.ownBlock ≠ some p.block) (u : Value) : (w.setCell p u).ownsRow B e size v n xs := by
  obtain ⟨h1, h2 | ⟨g, cap, cur, rfl, h3, h4, h5⟩⟩ := h
  · exact ⟨h1, Or.inl h2⟩
  · have hne : g ≠ p.block := fun e => hp (by simp [Value.ownBlock, e])
    exact ⟨h1, Or.inr ⟨g, cap, cur, rfl, h3, (by
      unfold World.setCell
      simp only [Array.getElem?_modify]
      rw [if_neg (fun e => hne e.symm)]
      exact h4), h5⟩⟩
/-- While an edge is cut: what was gathered, the variable's cells. -/
def SplSt (w1 : World) (B : Nat) (G : List Ed) (s : Value) (u v x : Int) (wr : World) : Prop :=
  GrowE w1 G s wr ∧ ThreeAt B wr (.int .i64 u) (.int .i64 v) (.int .i64 x) ∧ s.ownBlock ≠ some B ∧ w1.heap.size ≤ B
section
variable {w1 wr w' : World} {B : Nat} {G : List Ed} {s s' : Value} {u v x : Int}
theorem SplSt.start (h : GrowE w1 G s wr) (T : TypeId) : SplSt w1 wr.heap.size G s u v x (wr.alloc (.cells #[.int .i64 u, .int .i64 v, .int .i64 x] T)) :=
  ⟨h.on ((Below.refl _ _).alloc (Nat.le_refl _) _), ThreeAt.new _ _ _ _ _, fun e => by have := (h.2.lt _ e).2; omega, h.1.size⟩
theorem SplSt.step (h : SplSt w1 B G s u v x wr) (e : Ed) {o : Obj} (h1 : w'.ownsRow w1.heap.size 24 3 s' (G.length + 1) (flatE G ++ cellE e)) (hg : (wr.alloc o).grownBy w' s.ownBlock) (hl : s'.ownBlock = s.ownBlock ∨ s'.ownBlock = some (wr.alloc o).heap.size) :
    SplSt w1 B (G ++ [e]) s' u v x w' := by
  obtain ⟨g1, g2, g3, g4⟩ := h
  have hB := g2.lt
  have g2' := g2.on ((Below.refl wr.heap.size wr).alloc (Nat.le_refl _) o) hB
  refine ⟨g1.step e h1 hg, three_same g2' (hg.block B (by simp; omega) (fun e => g3 e.symm)), ?_, g4⟩
  rcases hl with hl | hl
  · rw [hl]; exact g3
  · rw [hl]
    intro e
    have := Option.some.inj e
    simp at this
    omega
theorem SplSt.store (h : SplSt w1 B G s u v x wr) (y : Int) : SplSt w1 B G s u v y (wr.setCell ⟨B, 2, none⟩ (.int .i64 y)) := by
  obtain ⟨g1, ⟨c0, c1, c2, f0, f1, f2⟩, g3, g4⟩ := h
  refine ⟨⟨g1.1.setCell g4 _, owns_other g1.2 (p := ⟨B, 2, none⟩) g3 _⟩, ⟨?_, ?_, World.cell?_setCell_same _ _ _ c2, by simpa using f0, by simpa using f1, by simpa using f2⟩, g3, g4⟩
  · exact (World.cell?_setCell_other wr ⟨B, 2, none⟩ ⟨B, 0, none⟩ _ (by simp)).trans c0
  · exact (World.cell?_setCell_other wr ⟨B, 2, none⟩ ⟨B, 1, none⟩ _ (by simp)).trans c1
end
end Go.Proofs.Ytbkcjbknoljogaa
