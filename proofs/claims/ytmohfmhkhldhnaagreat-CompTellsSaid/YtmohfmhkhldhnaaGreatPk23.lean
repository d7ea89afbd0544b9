/- Texts that the laws of this seat stand on, part 23. -/
import Derived.Test.YtmohfmhkhldhnaaGreatPk22
import Derived.Test.YtmohfmhkhldhnaaGreatPk10
import Derived.Maps.AppendAt
import Derived.Deep.RegionWith
/- The document's classes, what hangs together with a vertex, and a graph without an edge (layer 20). -/
namespace Go.Proofs.YtmohfmhkhldhnaaGreat.Cm
open Go.RowKit Go.ChangeShapes EdPure NtPure DsuPure CmPure Ds
set_option maxRecDepth 100000 in
theorem refOf_any (n : Nat) (hn : n ≤ 4096) (a : Option Addr) (c : Nat) (M : List Ed) (hl : M.length ≤ 100000) (w : World) (hR : ReadsE w.heap.size w a M) :
    Calls Tryz.prog 15 #[.agg #[.int .i64 (n : Int), .slice a M.length c]] w fun e w' => RowsOut (listsP n (namH n M 0)) w e w' := by
  have HS : Hid (BoxSt w w.heap.size (n : Int) a c M (w.alloc (.cells #[.int .i64 (n : Int), .slice a M.length c] 37))) := Lib.hid (BoxSt.start hR)
  clear hR
  go_enter Tryz.func15, Tryz.ntmps15
  go_upto_region 1 with fail
  generalize w.alloc (.cells #[.int .i64 (n : Int), .slice a M.length c] 37) = W0 at *
  obtain ⟨c0, c1, -, -⟩ := HS.out.2.1
  go_wp2_with fail
  refine (refHeavy_any n hn a c M hl 0 W0 HS.out.2.2).mono ?_
  rintro e w1 ⟨hb1, q, d, K, rfl, hr, hK⟩
  have HB := Lib.hid (HS.out.1.trans (hb1.mono HS.out.1.size))
  have HR := Lib.hid (And.intro hr (Nat.le_trans HS.out.1.size hK))
  clear hb1 hr c0 c1 HS hK
  go_wp2
  go_ret
  exact ⟨HB.out, q, d, K, rfl, HR.out.1, HR.out.2⟩
set_option maxRecDepth 100000 in
set_option maxHeartbeats 2000000 in
theorem refReach_any (n : Nat) (hn : n ≤ 4096) (a : Option Addr) (c : Nat) (M : List Ed) (hl : M.length ≤ 100000) (v : Int) (w : World) (hR : ReadsE w.heap.size w a M) :
    Calls Tryz.prog 18 #[.agg #[.int .i64 (n : Int), .slice a M.length c], .int .i64 v] w fun e w' => IntsOf (reachL n (namH n M 0) v) w e w' := by
  have HS : Hid (BoxSt w w.heap.size (n : Int) a c M (w.alloc (.cells #[.int .i64 (n : Int), .slice a M.length c] 37))) := Lib.hid (BoxSt.start hR)
  have HNM := Lib.hid (nam_names n M 0)
  clear hR
  go_enter Tryz.func18, Tryz.ntmps18
  go_upto_region 1 with fail
  generalize w.alloc (.cells #[.int .i64 (n : Int), .slice a M.length c] 37) = W0 at *
  obtain ⟨c0, c1, -, -⟩ := HS.out.2.1
  go_wp2_with fail
  refine (refOf_any n hn a c M hl W0 HS.out.2.2).mono ?_
  rintro e w1 ⟨hb1, q, d, K, rfl, hr, -⟩
  have HB := Lib.hid (HS.out.1.trans (hb1.mono HS.out.1.size))
  have HR := Lib.hid hr
  have HLF : Hid ((listsP n (namH n M 0)).length ≤ 4096) := Lib.hid (Nat.le_trans lists_few hn)
  have HLR : Hid (∀ i (hi : i < (listsP n (namH n M 0)).length), ((listsP n (namH n M 0))[i]).length ≤ 4096) := Lib.hid fun i hi => Nat.le_trans (lists_rows _ (List.getElem_mem hi)) hn
  clear hb1 hr c0 c1 HS
  go_wp2_with fail
  go_loopw [6] (fun iv wr => ∃ i : Nat, iv = .int .i64 i ∧ i ≤ (listsP n (namH n M 0)).length ∧ Hid (∀ j (hj : j < (listsP n (namH n M 0)).length), j < i → v ∉ (listsP n (namH n M 0))[j]) ∧ wr = w1) (fun iv _ => (listsP n (namH n M 0)).length - (intOf iv).toNat)
  case atStart => exact ⟨0, rfl, Nat.zero_le _, Lib.hid (fun _ _ h => absurd h (by omega)), rfl⟩
  case round =>
    obtain ⟨i, rfl, hi, HJ, hw⟩ := hrel
    obtain rfl := hw.symm
    have hlf := HLF.out
    by_cases hlt : i < (listsP n (namH n M 0)).length
    · have i1 : (i : Int) < ((listsP n (namH n M 0)).length : Int) := by omega
      obtain ⟨b, off, q2, c2, rfl, hbN, hc, hrd⟩ := HR.out.at hlt
      have HRD := Lib.hid hrd
      have hrl := HLR.out i hlt
      have HI0 : Hid (∀ k (hk : k < ((listsP n (namH n M 0))[i]).length), k < 0 → ((listsP n (namH n M 0))[i])[k] ≠ v) := Lib.hid (fun _ _ h => absurd h (by omega))
      obtain ⟨row, hrow⟩ : ∃ row, (listsP n (namH n M 0))[i] = row := ⟨_, rfl⟩
      rw [hrow] at hc HRD hrl HI0
      have HROW := Lib.hid hrow
      clear hrow hrd
      go_wp2_with fail
      go_loopw [7] (fun kv wr => ∃ k : Nat, kv = .int .i64 k ∧ k ≤ row.length ∧ Hid (∀ j (hj : j < row.length), j < k → row[j] ≠ v) ∧ wr = w1) (fun kv _ => row.length - (intOf kv).toNat)
      case atStart => exact ⟨0, rfl, Nat.zero_le _, HI0, rfl⟩
      case round =>
        clear HI0
        obtain ⟨k, rfl, hk, HK, hw⟩ := hrel
        obtain rfl := hw.symm
        by_cases hlt2 : k < row.length
        · have i2 : (k : Int) < (row.length : Int) := by omega
          obtain ⟨b2, off2, rfl, hbN2, hck⟩ := HRD.out.at hlt2
          unfold encZ at hck
          by_cases hv : row[k] = v
          · have HE : Hid (row = reachL n (namH n M 0) v) := Lib.hid (by
              have := reach_hit (v := v) hlt (by rw [HROW.out, ← hv]; exact List.getElem_mem hlt2)
              rw [HROW.out] at this
              exact this)
            rw [hv] at hck
            clear hv
            go_wp2
            go_ret
            rw [← HE.out]
            exact ⟨HB.out, _, c2, rfl, HRD.out⟩
          · have HKN : Hid (∀ j (hj : j < row.length), j < k + 1 → row[j] ≠ v) := Lib.hid fun j hj hjk => by
              by_cases e : j = k
              · subst e; exact hv
              · exact HK.out j hj (by omega)
            have t : (row[k] == v) = false := by rw [beq_eq_false_iff_ne]; exact hv
            generalize row[k] = y at *
            clear hv
            go_wp2
            go_roundw
            case rel => exact ⟨k + 1, by go_num, hlt2, HKN, trivial⟩
            case measure => (simp [intOf]; omega)
        · have hke : k = row.length := by omega
          have i2 : ¬ (k : Int) < (row.length : Int) := by omega
          have HJN : Hid (∀ j (hj : j < (listsP n (namH n M 0)).length), j < i + 1 → v ∉ (listsP n (namH n M 0))[j]) := Lib.hid fun j hj hjk => by
            by_cases e : j = i
            · subst e
              rw [HROW.out]
              intro hm
              obtain ⟨x, hx, hxe⟩ := List.mem_iff_getElem.1 hm
              exact HK.out x hx (by omega) hxe
            · exact HJ.out j hj (by omega)
          clear hke
          go_wp2
          go_roundw
          case rel => exact ⟨i + 1, by go_num, hlt, HJN, trivial⟩
          case measure => (simp [intOf]; omega)
    · have hie : i = (listsP n (namH n M 0)).length := by omega
      have i1 : ¬ (i : Int) < ((listsP n (namH n M 0)).length : Int) := by omega
      have HE : Hid (reachL n (namH n M 0) v = []) := Lib.hid (reach_miss HNM.out fun j hj => HJ.out j hj (by omega))
      clear hie
      go_wp2
      go_ret
      rw [HE.out]
      exact ⟨HB.out, none, 0, rfl, Or.inl rfl⟩
end Go.Proofs.YtmohfmhkhldhnaaGreat.Cm
/- Contracts of countSplit and Split. -/
namespace Go.Proofs.YtmohfmhkhldhnaaGreat
open Go.RowKit Go.ChangeShapes EdPure NumPure
theorem ret_n2 {a b : Int} {c d : Bool} (h1 : a = b) (h2 : c = d) : Ending.returned (.tuple #[.int .i64 a, .bool c]) = .returned (.tuple #[.int .i64 b, .bool d]) := by rw [h1, h2]
theorem three_same {b : Nat} {w w' : World} {u v x : Value} (h : ThreeAt b w u v x) (hk : w'.heap[b]? = w.heap[b]?) : ThreeAt b w' u v x := by
  obtain ⟨h0, h1, h2, f0, f1, f2⟩ := h
  exact ⟨(World.cell?_of_block hk).trans h0, (World.cell?_of_block hk).trans h1, (World.cell?_of_block hk).trans h2, (World.frozen?_of_block hk).trans f0, (World.frozen?_of_block hk).trans f1, (World.frozen?_of_block hk).trans f2⟩
def cntR (l : List Ed) : Nat := if splitB l = true then cntL l else 0
def CntRel (w : World) (l : List Ed) (k : Nat) (wr : World) : Prop := k ≤ l.length ∧ Below w.heap.size w wr ∧ (∀ j (hj : j < l.length), j < k → 0 ≤ l[j].2.2) ∧ cntL (l.take k) ≤ 1048576
theorem CntRel.next {w wr w' : World} {l : List Ed} {k : Nat} (h : CntRel w l k wr) (hk : k < l.length) (h0 : 0 ≤ l[k].2.2) (hb : Below w.heap.size w w') (hc : cntL (l.take (k + 1)) ≤ 1048576) : CntRel w l (k + 1) w' := by
  refine ⟨hk, hb, fun j hj hlt => ?_, hc⟩
  by_cases e : j = k
  · subst e; exact h0
  · exact h.2.2.1 j hj (by omega)
theorem owns_other {w : World} {B : Nat} {e : TypeId} {size n : Nat} {v : Value} {xs : List Value} (h : w.ownsRow B e size v n xs) {p : Addr} (hp : v.ownBlock ≠ some p.block) (u : Value) : (w.setCell p u).ownsRow B e size v n xs := by
  obtain ⟨h1, h2 | ⟨g, cap, cur, rfl, h3, h4, h5⟩⟩ := h
  · exact ⟨h1, Or.inl h2⟩
  · have hne : g ≠ p.block := fun e => hp (by simp [Value.ownBlock, e])
    exact ⟨h1, Or.inr ⟨g, cap, cur, rfl, h3, (by
      unfold World.setCell
      simp only [Array.getElem?_modify]
      rw [if_neg (fun e => hne e.symm)]
      exact h4), h5⟩⟩
/-- While an edge is cut: what was gathered, the variable's cells. -/
def SplSt (w1 : World) (B : Nat) (G : List Ed) (s : Value) (u v x : Int) (wr : World) : Prop :=
  GrowE w1 G s wr ∧ ThreeAt B wr (.int .i64 u) (.int .i64 v) (.int .i64 x) ∧ s.ownBlock ≠ some B ∧ w1.heap.size ≤ B
section
variable {w1 wr w' : World} {B : Nat} {G : List Ed} {s s' : Value} {u v x : Int}
theorem SplSt.start (h : GrowE w1 G s wr) (T : TypeId) : SplSt w1 wr.heap.size G s u v x (wr.alloc (.cells #[.int .i64 u, .int .i64 v, .int .i64 x] T)) :=
  ⟨h.on ((Below.refl _ _).alloc (Nat.le_refl _) _), ThreeAt.new _ _ _ _ _, fun e => by have := (h.2.lt _ e).2; omega, h.1.size⟩
theorem SplSt.step (h : SplSt w1 B G s u v x wr) (e : Ed) {o : Obj} (h1 : w'.ownsRow w1.heap.size 54 3 s' (G.length + 1) (flatE G ++ cellE e)) (hg : (wr.alloc o).grownBy w' s.ownBlock) (hl : s'.ownBlock = s.ownBlock ∨ s'.ownBlock = some (wr.alloc o).heap.size) :
    SplSt w1 B (G ++ [e]) s' u v x w' := by
  obtain ⟨g1, g2, g3, g4⟩ := h
  have hB := g2.lt
  have g2' := g2.on ((Below.refl wr.heap.size wr).alloc (Nat.le_refl _) o) hB
  refine ⟨g1.step e h1 hg, three_same g2' (hg.block B (by simp; omega) (fun e => g3 e.symm)), ?_, g4⟩
  rcases hl with hl | hl
  · rw [hl]; exact g3
  · rw [hl]
    intro e
    have := Option.some.inj e
    simp at this
    omega
theorem SplSt.store (h : SplSt w1 B G s u v x wr) (y : Int) : SplSt w1 B G s u v y (wr.setCell ⟨B, 2, none⟩ (.int .i64 y)) := by
  obtain ⟨g1, ⟨c0, c1, c2, f0, f1, f2⟩, g3, g4⟩ := h
  refine ⟨⟨g1.1.setCell g4 _, owns_other g1.2 (p := ⟨B, 2, none⟩) g3 _⟩, ⟨?_, ?_, World.cell?_setCell_same _ _ _ c2, by simpa using f0, by simpa using f1, by simpa using f2⟩, g3, g4⟩
  · exact (World.cell?_setCell_other wr ⟨B, 2, none⟩ ⟨B, 0, none⟩ _ (by simp)).trans c0
  · exact (World.cell?_setCell_other wr ⟨B, 2, none⟩ ⟨B, 1, none⟩ _ (by simp)).trans c1
end
end Go.Proofs.YtmohfmhkhldhnaaGreat
/- Contracts of the document's Add and Sum of layer 1 (cut out of XNumRef: a later stage's reference that adds takes this text). -/
namespace Go.Proofs.YtmohfmhkhldhnaaGreat
open Go.RowKit Go.ChangeShapes NumPure
theorem refAdd_any (a b : Int) (ha : -9223372036854775808 ≤ a ∧ a ≤ 9223372036854775807) (hb : -9223372036854775808 ≤ b ∧ b ≤ 9223372036854775807) (w : World) :
    Calls Tryz.prog 87 #[.int .i64 a, .int .i64 b] w fun e w' => e = .returned (.agg #[.int .i64 (cut (a + b)), .bool (fitsB (a + b))]) ∧ Below w.heap.size w w' := by
  obtain ⟨ha1, ha2⟩ := ha
  obtain ⟨hb1, hb2⟩ := hb
  by_cases h : -9223372036854775808 ≤ a + b ∧ a + b ≤ 9223372036854775807
  · have e1 := Lib.hid (cut_in h)
    have e2 := Lib.hid ((fits_iff _).2 h)
    obtain ⟨h1, h2⟩ := h
    by_cases h0 : 0 ≤ b
    · go_enter Tryz.func87, Tryz.ntmps87
      go_wp2
      refine bodyPost_ret (v := .agg #[.int .i64 (a + b), .bool true]) (by simp [results, Tryz.results87, go_sem]) rfl ⟨agg_ib e1.out.symm e2.out.symm, (Below.refl _ _).alloc (Nat.le_refl _) _⟩
    · go_enter Tryz.func87, Tryz.ntmps87
      go_wp2
      refine bodyPost_ret (v := .agg #[.int .i64 (a + b), .bool true]) (by simp [results, Tryz.results87, go_sem]) rfl ⟨agg_ib e1.out.symm e2.out.symm, (Below.refl _ _).alloc (Nat.le_refl _) _⟩
  · have e1 := Lib.hid (cut_out h)
    have e2 := Lib.hid ((fits_not _).2 h)
    by_cases h0 : 0 ≤ b
    · have h3 := wrap_add_up a b ha2 h0 hb2 (by omega)
      clear h
      go_enter Tryz.func87, Tryz.ntmps87
      go_wp2
      refine bodyPost_ret (v := .agg #[.int .i64 0, .bool false]) (by simp [results, Tryz.results87, go_sem]) rfl ⟨agg_ib e1.out.symm e2.out.symm, (Below.refl _ _).alloc (Nat.le_refl _) _⟩
    · have h3 := wrap_add_down a b ha1 (by omega) hb1 (by omega)
      clear h
      go_enter Tryz.func87, Tryz.ntmps87
      go_wp2
      refine bodyPost_ret (v := .agg #[.int .i64 0, .bool false]) (by simp [results, Tryz.results87, go_sem]) rfl ⟨agg_ib e1.out.symm e2.out.symm, (Below.refl _ _).alloc (Nat.le_refl _) _⟩
/-- The document's sum, number by number. -/
def RefAt (M : Nat) (w : World) (p : Int × Bool) : Prop :=
  w.cell? ⟨M, 0, none⟩ = some (.int .i64 p.1) ∧ w.cell? ⟨M, 1, none⟩ = some (.bool p.2) ∧ w.frozen? ⟨M, 0, none⟩ = false ∧ w.frozen? ⟨M, 1, none⟩ = false
theorem RefAt.on {M : Nat} {w w' : World} {p : Int × Bool} (h : RefAt M w p) (hb : Below (M + 1) w w') : RefAt M w' p := by
  obtain ⟨h0, h1, f0, f1⟩ := h
  exact ⟨(hb.cell (by simp)).trans h0, (hb.cell (by simp)).trans h1, (hb.frozen (by simp)).trans f0, (hb.frozen (by simp)).trans f1⟩
theorem RefAt.set {N : Nat} {w : World} {p : Int × Bool} (h : RefAt N w p) (q : Int × Bool) : RefAt N ((w.setCell ⟨N, 0, none⟩ (.int .i64 q.1)).setCell ⟨N, 1, none⟩ (.bool q.2)) q := by
  obtain ⟨h0, h1, f0, f1⟩ := h
  have h1' : (w.setCell ⟨N, 0, none⟩ (.int .i64 q.1)).cell? ⟨N, 1, none⟩ = some (.bool p.2) := (World.cell?_setCell_other w ⟨N, 0, none⟩ ⟨N, 1, none⟩ _ (by simp)).trans h1
  refine ⟨(World.cell?_setCell_other _ ⟨N, 1, none⟩ ⟨N, 0, none⟩ _ (by simp)).trans (World.cell?_setCell_same _ _ _ h0), World.cell?_setCell_same _ _ _ h1', ?_, ?_⟩
  · simpa using f0
  · simpa using f1
theorem RefAt.lt {M : Nat} {w : World} {p : Int × Bool} (h : RefAt M w p) : M < w.heap.size := by
  exact World.block_lt_of_cell? w _ h.1
def RefRel (N : Nat) (w : World) (l : List Int) (k : Nat) (wr : World) : Prop := k ≤ l.length ∧ Below (N + 1) w wr ∧ RefAt (N + 1) wr (sumS (l.take k))
end Go.Proofs.YtmohfmhkhldhnaaGreat
/- The document's Check, Normal, Cmp, Checks, Find, Total, Same. -/
namespace Go.Proofs.YtmohfmhkhldhnaaGreat
open Go.RowKit Go.ChangeShapes EdPure NumPure
theorem refCheck_any (n : Int) (e : Ed) (w : World) :
    Calls Tryz.prog 61 #[.int .i64 n, encE e] w fun r w' => r = .returned (.int .i64 (chkE n e)) ∧ Below w.heap.size w w' := by
  obtain ⟨u, v, x⟩ := e
  unfold encE
  by_cases h1 : u < 0
  · have HE : Hid (chkE n (u, v, x) = 4) := Lib.hid (by unfold chkE; rw [if_neg (by simp only; omega)])
    go_enter Tryz.func61, Tryz.ntmps61
    go_wp2
    go_ret
    exact ⟨ret_i HE.out.symm, (Below.refl _ _).alloc (Nat.le_refl _) _⟩
  by_cases h2 : u < n
  · by_cases h3 : v < 0
    · have HE : Hid (chkE n (u, v, x) = 4) := Lib.hid (by unfold chkE; rw [if_neg (by simp only; omega)])
      go_enter Tryz.func61, Tryz.ntmps61
      go_wp2
      go_ret
      exact ⟨ret_i HE.out.symm, (Below.refl _ _).alloc (Nat.le_refl _) _⟩
    by_cases h4 : v < n
    · by_cases h5 : x < 0
      · have HE : Hid (chkE n (u, v, x) = 5) := Lib.hid (by unfold chkE; rw [if_pos (by simp only; omega), if_neg (by simp only; omega)])
        go_enter Tryz.func61, Tryz.ntmps61
        go_wp2
        go_ret
        exact ⟨ret_i HE.out.symm, (Below.refl _ _).alloc (Nat.le_refl _) _⟩
      by_cases h6 : x ≤ 2147483648
      · have HE : Hid (chkE n (u, v, x) = 0) := Lib.hid (by unfold chkE; rw [if_pos (by simp only; omega), if_pos (by simp only; omega)])
        go_enter Tryz.func61, Tryz.ntmps61
        go_wp2
        go_ret
        exact ⟨ret_i HE.out.symm, (Below.refl _ _).alloc (Nat.le_refl _) _⟩
      · have HE : Hid (chkE n (u, v, x) = 5) := Lib.hid (by unfold chkE; rw [if_pos (by simp only; omega), if_neg (by simp only; omega)])
        go_enter Tryz.func61, Tryz.ntmps61
        go_wp2
        go_ret
        exact ⟨ret_i HE.out.symm, (Below.refl _ _).alloc (Nat.le_refl _) _⟩
    · have HE : Hid (chkE n (u, v, x) = 4) := Lib.hid (by unfold chkE; rw [if_neg (by simp only; omega)])
      go_enter Tryz.func61, Tryz.ntmps61
      go_wp2
      go_ret
      exact ⟨ret_i HE.out.symm, (Below.refl _ _).alloc (Nat.le_refl _) _⟩
  · have HE : Hid (chkE n (u, v, x) = 4) := Lib.hid (by unfold chkE; rw [if_neg (by simp only; omega)])
    go_enter Tryz.func61, Tryz.ntmps61
    go_wp2
    go_ret
    exact ⟨ret_i HE.out.symm, (Below.refl _ _).alloc (Nat.le_refl _) _⟩
theorem refNormal_any (e : Ed) (w : World) :
    Calls Tryz.prog 63 #[encE e] w fun r w' => r = .returned (encE (normE e)) ∧ Below w.heap.size w w' := by
  obtain ⟨u, v, x⟩ := e
  unfold encE
  by_cases h : v < u
  · have HE : Hid ((v, u, x) = normE (u, v, x)) := Lib.hid (by unfold normE; rw [if_pos h])
    go_enter Tryz.func63, Tryz.ntmps63
    go_wp2
    refine bodyPost_ret (v := .agg #[.int .i64 v, .int .i64 u, .int .i64 x]) (by simp [results, Tryz.results63, go_sem]) rfl ⟨agg_e HE.out, ?_⟩
    exact below_two
  · have HE : Hid ((u, v, x) = normE (u, v, x)) := Lib.hid (by unfold normE; rw [if_neg h])
    go_enter Tryz.func63, Tryz.ntmps63
    go_wp2
    refine bodyPost_ret (v := .agg #[.int .i64 u, .int .i64 v, .int .i64 x]) (by simp [results, Tryz.results63, go_sem]) rfl ⟨agg_e HE.out, ?_⟩
    exact below_two
theorem agg_iiE {a b c d : Int} (h1 : a = b) (h2 : c = d) : Ending.returned (.agg #[.int .i64 a, .int .i64 c]) = .returned (.agg #[.int .i64 b, .int .i64 d]) := by rw [h1, h2]
theorem refChecks_any (n : Int) (a : Option Addr) (c : Nat) (l : List Ed) (hl : l.length ≤ 1048576) (w : World) (hR : ReadsE w.heap.size w a l) :
    Calls Tryz.prog 40 #[.int .i64 n, .slice a l.length c] w fun e w' => e = .returned (.agg #[.int .i64 (chkL n l 0).1, .int .i64 (chkL n l 0).2]) ∧ Below w.heap.size w w' := by
  have HR := Lib.hid hR
  have H2 : Hid (TwoAt w.heap.size (w.alloc (.cells #[.int .i64 0, .int .i64 0] 82)) (.int .i64 0) (.int .i64 0)) := Lib.hid (TwoAt.new _ _ _ _)
  have HB0 : Hid (Below w.heap.size w (w.alloc (.cells #[.int .i64 0, .int .i64 0] 82))) := Lib.hid ((Below.refl _ _).alloc (Nat.le_refl _) _)
  clear hR
  go_enter Tryz.func40, Tryz.ntmps40
  go_wp2
  generalize w.alloc (.cells #[.int .i64 0, .int .i64 0] 82) = w0 at *
  go_loopw [5] (fun i wr => ∃ k : Nat, i = .int .i64 k ∧ Hid (ChkRel n w l k wr ∧ TwoAt w.heap.size wr (.int .i64 0) (.int .i64 0))) (fun i _ => l.length - (intOf i).toNat)
  case atStart => exact ⟨0, rfl, Lib.hid ⟨⟨Nat.zero_le _, HB0.out, fun j _ h => by omega⟩, H2.out⟩⟩
  case round =>
    obtain ⟨k, rfl, HK⟩ := hrel
    clear H2 HB0
    have i0 : (0 : Int) ≤ (k : Int) := by omega
    by_cases hlt : k < l.length
    · have i1 : (k : Int) < (l.length : Int) := by omega
      obtain ⟨u, v, x, he⟩ : ∃ u v x, l[k] = (u, v, x) := ⟨_, _, _, rfl⟩
      obtain ⟨b, off, rfl, hbw, hbr, c0, c1, c2⟩ := HR.out.cells hlt HK.out.1.2.1 he
      have HC := Lib.hid (refCheck_any n (u, v, x) wr)
      unfold encE at HC
      have HE := Lib.hid he
      clear he
      by_cases h0 : chkE n (u, v, x) = 0
      · have H0 := Lib.hid h0
        rw [h0] at HC
        clear h0
        go_wp2_with (first | (go_at_call 61; refine HC.out.mono ?_; rintro e w1 ⟨rfl, hb⟩; have H1 := Lib.hid hb; clear hb))
        go_roundw
        case rel => exact ⟨k + 1, by go_num, Lib.hid ⟨HK.out.1.next hlt (by rw [HE.out]; exact H0.out) (HK.out.1.2.1.trans (H1.out.mono HK.out.1.2.1.size)), HK.out.2.on H1.out HK.out.2.lt⟩⟩
        case measure => (simp [intOf]; omega)
      · have HX : Hid (chkL n l 0 = (chkE n (u, v, x), (k : Int))) := Lib.hid (by
          rw [chk_hit n l 0 k hlt (by rw [HE.out]; exact h0) HK.out.1.2.2, HE.out, Nat.zero_add])
        have t : (chkE n (u, v, x) != 0) = true := by simpa using h0
        clear h0
        generalize chkE n (u, v, x) = r at *
        go_wp2_with fail
        refine HC.out.mono ?_
        rintro e w1 ⟨rfl, hb⟩
        have hA := (HK.out.2.on hb HK.out.2.lt)
        obtain ⟨d0, d1, g0, g1⟩ := hA
        have H1 := Lib.hid hb
        clear hb
        go_wp2
        refine bodyPost_ret (v := .agg #[.int .i64 r, .int .i64 k]) (by simp [results, Tryz.results40, go_sem, d0, d1]) rfl ⟨agg_iiE (by rw [HX.out]) (by rw [HX.out]), ?_⟩
        exact ((HK.out.1.2.1.trans (H1.out.mono HK.out.1.2.1.size)).setCell (Nat.le_refl _) _).setCell (Nat.le_refl _) _
    · have hk : k = l.length := by have := HK.out.1.1; omega
      subst hk
      have HX : Hid (chkL n l 0 = (0, 0)) := Lib.hid (chk_miss n l 0 fun j hj => HK.out.1.2.2 j hj hj)
      obtain ⟨d0, d1, g0, g1⟩ := HK.out.2
      go_wp2
      refine bodyPost_ret (v := .agg #[.int .i64 0, .int .i64 0]) (by simp [results, Tryz.results40, go_sem, d0, d1]) rfl ⟨agg_iiE (by rw [HX.out]) (by rw [HX.out]), ?_⟩
      exact (HK.out.1.2.1.setCell (Nat.le_refl _) _).setCell (Nat.le_refl _) _
end Go.Proofs.YtmohfmhkhldhnaaGreat
/- The document's Total, Same, Cmp. -/
namespace Go.Proofs.YtmohfmhkhldhnaaGreat
open Go.RowKit Go.ChangeShapes EdPure NumPure
theorem reads_of {w : World} {a : Option Addr} {l : List Int} (h : ReadsL (encInt .i64) w.heap.size w a l) : Reads w.heap.size w a l := by
  rcases h with h | ⟨b, off, h1, h2, h3⟩
  · exact Or.inl h
  · refine Or.inr ⟨b, off, h1, h2, fun i hi => ?_⟩
    rw [h3 i hi]
    unfold encInt
    simp [List.getD_eq_getElem?_getD, List.getElem?_eq_getElem hi]
theorem wts_rng {l : List Ed} (h : InL l) : Rng (wts l) := by
  intro i hi
  rw [wts_len] at hi
  rw [wts_at hi]
  exact (h.at hi).2.2
theorem wts_take {l : List Ed} {k : Nat} (hk : k < l.length) : wts (l.take (k + 1)) = wts (l.take k) ++ [l[k].2.2] := by
  rw [List.take_succ_eq_append_getElem hk]; unfold wts; rw [List.map_append]; rfl
theorem info_int64 : ∃ i, (Tryz.prog.info? 2) = some i ∧ i.zero = some (.int .i64 0) ∧ i.size = 1 ∧ i.bytes = 8 := info_of (by kernel_rfl)
def RTotRel (w0 : World) (l : List Ed) (k : Nat) (v : Value) (wr : World) : Prop := k ≤ l.length ∧ GrowRel (encInt .i64) 2 w0 (wts (l.take k)) v wr
@[go_sem] theorem eq_edge (a b c a' b' c' : Int) (w : World) : (Op.equalIn 10000 54 (.agg #[.int .i64 a, .int .i64 b, .int .i64 c]) (.agg #[.int .i64 a', .int .i64 b', .int .i64 c'])).run Tryz.prog w = .ok (a == a' && (b == b' && c == c')) w := by
  have u3 := Tryz.underlying3
  have a3 := Tryz.isAgg3
  have z3 := Tryz.sizeOf3
  have u2 := Tryz.underlying2
  have a2 := Tryz.isAgg2
  have z2 := Tryz.sizeOf2
  have hS : Tryz.prog.underlying 54 = some (.struct (Tryz.prog.fieldsOf 54)) := by kernel_rfl
  have hp : Tryz.prog.stoodInHeld 54 = false := by kernel_rfl
  rw [show (10000 : Nat) = 9999 + 1 from rfl, run_equalIn_agg w 9999 54 _ _ hS hp]
  simp only [Program.fieldsOf, Tryz.underlying54]
  go_simp
  by_cases h1 : a = a' <;> by_cases h2 : b = b' <;> by_cases h3 : c = c' <;> simp [h1, h2, h3]
def SameRel (w : World) (l m : List Ed) (k : Nat) (wr : World) : Prop := k ≤ l.length ∧ Below w.heap.size w wr ∧ ∀ j (h1 : j < l.length) (h2 : j < m.length), j < k → l[j] = m[j]
end Go.Proofs.YtmohfmhkhldhnaaGreat
