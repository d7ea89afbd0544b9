/- Texts that the laws of this seat stand on, part 12. -/
import Derived.Test.YtbankocbncpepaaPk10
import Derived.Test.YtbankocbncpepaaPk11
import Derived.Deep.QuietTactic
import Derived.BigQuiet
import Derived.IntWalk
import Derived.Test.YtbankocbncpepaaPk2
import Derived.WalkMore
import Derived.Maps.AppendAt
import Derived.StillTailTactics
import Derived.Deep.RegionWith
import Derived.Deep.Cut
import Derived.Deep.CutRange
import Derived.BigRegion
/- The document's Check and In (layer 21). -/
namespace Go.Proofs.Ytbankocbncpepaa.Sd
open Go.RowKit Go.ChangeShapes EdPure NtPure CutPure SdPure Cm
set_option maxHeartbeats 1000000 in
theorem in_any (a : Option Addr) (c : Nat) (l : List Int) (hl : l.length ≤ 1000000000) (v : Int) (w : World) (hR : ReadsL encZ w.heap.size w a l) :
    Calls Try.prog 33 #[.slice a l.length c, .int .i64 v] w fun e w' => e = .returned (.bool (inS l v)) ∧ w' = w := by
  have HR := Lib.hid hR
  clear hR
  go_enter Try.func33, Try.ntmps33
  go_wp2
  go_loopw [5] (fun i wr => ∃ k : Nat, i = .int .i64 k ∧ k ≤ l.length ∧ Hid (v ∉ l.take k) ∧ wr = w) (fun i _ => l.length - (intOf i).toNat)
  case atStart => exact ⟨0, rfl, Nat.zero_le _, Lib.hid (by simp), rfl⟩
  case round =>
    obtain ⟨k, rfl, hk, HK, rfl⟩ := hrel
    by_cases hlt : k < l.length
    · have i1 : (k : Int) < (l.length : Int) := by omega
      obtain ⟨b, off, rfl, hbN, hc⟩ := HR.out.at hlt
      have hT := take_one hlt
      have hm : l[k] ∈ l := List.getElem_mem hlt
      generalize l[k] = x at *
      unfold encZ at hc
      by_cases hx : x = v
      · subst hx
        have HY : Hid (inS l x = true) := Lib.hid (inS_iff.2 hm)
        clear hT hm
        go_wp2
        go_ret
        exact ⟨bool_ret HY.out.symm, rfl⟩
      · have HN : Hid (v ∉ l.take (k + 1)) := Lib.hid (by rw [hT, List.mem_append]; exact fun e => e.elim HK.out (fun e => hx (List.mem_singleton.1 e).symm))
        have t : (x == v) = false := by simpa using hx
        clear hT hm hx
        go_wp2
        go_roundw
        case rel => exact ⟨k + 1, by go_num, hlt, HN, by trivial⟩
        case measure => simp [intOf]; omega
    · have HY : Hid (inS l v = false) := Lib.hid (by
        have := HK.out
        rw [List.take_of_length_le (by omega)] at this
        cases hb : inS l v with
        | false => rfl
        | true => exact absurd (inS_iff.1 hb) this)
      go_wp2
      go_ret
      exact ⟨bool_ret HY.out.symm, rfl⟩
set_option maxHeartbeats 2000000 in
theorem refCheck_any (n : Int) (a : Option Addr) (c : Nat) (l : List Int) (hl : l.length ≤ 1000000000) (w : World) (hR : ReadsL encZ w.heap.size w a l) :
    Calls Try.prog 9 #[.int .i64 n, .slice a l.length c] w fun e w' => e = .returned (.int .i64 (chkS n l)) ∧ ∃ m, w' = w.drewN m := by
  have HR := Lib.hid hR
  clear hR
  go_enter Try.func9, Try.ntmps9
  go_wp2
  go_loopw [5] (fun i wr => ∃ (k m : Nat), i = .int .i64 k ∧ k ≤ l.length ∧ Hid (RightS n (l.take k)) ∧ wr = w.drewN m) (fun i _ => l.length - (intOf i).toNat)
  case atStart => exact ⟨0, 0, rfl, Nat.zero_le _, Lib.hid ⟨fun v hv => by simp at hv, by simp⟩, rfl⟩
  case round =>
    obtain ⟨k, m, rfl, hk, HK, rfl⟩ := hrel
    by_cases hlt : k < l.length
    · have i1 : (k : Int) < (l.length : Int) := by omega
      have i0 : (0 : Int) ≤ (k : Int) := by omega
      have HNx := Lib.hid (right_next hlt HK.out)
      have HBad : Hid (¬ RightS n (l.take (k + 1)) → chkS n l = 4) := Lib.hid chk_bad
      obtain ⟨b, off, rfl, hbN, hc0⟩ := HR.out.at hlt
      have hc : w.cell? ⟨b, off + k, none⟩ = some (encZ l[k]) := hc0
      clear hc0
      by_cases hk0 : 0 < k
      · obtain ⟨b', off', he, -, hd0⟩ := HR.out.at (show k - 1 < l.length by omega)
        cases he
        have HNY : Hid (RightS n (l.take (k + 1)) ↔ (0 ≤ l[k] ∧ l[k] < n) ∧ l[k - 1]'(by omega) < l[k]) := Lib.hid (HNx.out.trans ⟨fun e => ⟨e.1, e.2 hk0⟩, fun e => ⟨e.1, fun _ => e.2⟩⟩)
        clear HNx
        generalize l[k] = x at *
        generalize l[k - 1]'(by omega) = y at *
        have e1 : IntKind.i64.wrap ((k : Int) - 1) = ((k - 1 : Nat) : Int) := by rw [IntWalk.i64_in _ (by omega)]; omega
        have i2 : ((k - 1 : Nat) : Int) < (l.length : Int) := by omega
        have hd : w.cell? ⟨b, off + (k - 1), none⟩ = some (encZ y) := hd0
        clear hd0
        generalize k - 1 = j at *
        have i3 : (0 : Int) ≤ (j : Int) := by omega
        have d0 : decide (0 < k) = true := by simpa using hk0
        unfold encZ at hc hd
        by_cases c1 : x < 0
        · have HX := Lib.hid (HBad.out (fun e => by have := HNY.out.1 e; omega))
          have t1 : decide (x < 0) = true := by simpa using c1
          clear hk0
          go_wp2
          go_quiet (fail)
          go_wp2
          go_ret
          exact ⟨ret_i HX.out.symm, _, World.drewN_drewN _ _ _⟩
        · have t1 : decide (x < 0) = false := by simpa using c1
          by_cases c2 : n ≤ x
          · have HX := Lib.hid (HBad.out (fun e => by have := HNY.out.1 e; omega))
            have t2 : decide (n ≤ x) = true := by simpa using c2
            clear hk0
            go_wp2
            go_quiet (fail)
            go_wp2
            go_ret
            exact ⟨ret_i HX.out.symm, _, World.drewN_drewN _ _ _⟩
          · have t2 : decide (n ≤ x) = false := by simpa using c2
            by_cases c3 : x ≤ y
            · have HX := Lib.hid (HBad.out (fun e => by have := HNY.out.1 e; omega))
              have t3 : decide (x ≤ y) = true := by simpa using c3
              clear hk0
              go_wp2
              go_quiet (fail)
              go_wp2
              go_ret
              exact ⟨ret_i HX.out.symm, _, World.drewN_drewN _ _ _⟩
            · have t3 : decide (x ≤ y) = false := by simpa using c3
              have HN := Lib.hid (HNY.out.2 ⟨⟨by omega, by omega⟩, by omega⟩)
              clear hk0
              go_wp2
              go_quiet (fail)
              go_wp2
              go_roundw
              case rel => exact ⟨k + 1, _, by go_num, hlt, HN, rfl⟩
              case measure => simp [intOf]; omega
      · have HNY : Hid (RightS n (l.take (k + 1)) ↔ (0 ≤ l[k] ∧ l[k] < n)) := Lib.hid (HNx.out.trans ⟨fun e => e.1, fun e => ⟨e, fun h => absurd h hk0⟩⟩)
        clear HNx
        generalize l[k] = x at *
        obtain rfl : k = 0 := by omega
        unfold encZ at hc
        rw [Nat.add_zero] at hc
        have i4 : (0 : Int) < (l.length : Int) := by omega
        have d0 : decide ((0 : Int) < 0) = false := by decide
        by_cases c1 : x < 0
        · have HX := Lib.hid (HBad.out (fun e => by have := HNY.out.1 e; omega))
          have t1 : decide (x < 0) = true := by simpa using c1
          clear hk0
          go_wp2
          go_quiet (fail)
          go_wp2
          go_ret
          exact ⟨ret_i HX.out.symm, _, World.drewN_drewN _ _ _⟩
        · have t1 : decide (x < 0) = false := by simpa using c1
          by_cases c2 : n ≤ x
          · have HX := Lib.hid (HBad.out (fun e => by have := HNY.out.1 e; omega))
            have t2 : decide (n ≤ x) = true := by simpa using c2
            clear hk0
            go_wp2
            go_quiet (fail)
            go_wp2
            go_ret
            exact ⟨ret_i HX.out.symm, _, World.drewN_drewN _ _ _⟩
          · have t2 : decide (n ≤ x) = false := by simpa using c2
            have HN := Lib.hid (HNY.out.2 ⟨by omega, by omega⟩)
            clear hk0
            go_wp2
            go_quiet (fail)
            go_wp2
            go_roundw
            case rel => exact ⟨1, _, by go_num, hlt, HN, rfl⟩
            case measure => simp [intOf]; omega
    · have hkl : k = l.length := by omega
      have HT : Hid (RightS n l) := Lib.hid (by have := HK.out; rwa [hkl, List.take_length] at this)
      have HC := Lib.hid (chk_good HT.out)
      by_cases h0 : l.length = 0
      · have HX : Hid (chkS n l = 16) := Lib.hid (by rw [HC.out, if_pos (Or.inl (List.length_eq_zero_iff.1 h0))])
        have t0 : ((l.length : Int) == 0) = true := by simp [h0]
        clear hkl h0
        go_wp2
        go_ret
        exact ⟨ret_i HX.out.symm, _, rfl⟩
      · have t0 : ((l.length : Int) == 0) = false := by
          have : ¬ (l.length : Int) = 0 := by omega
          simpa using this
        by_cases h1 : (l.length : Int) = n
        · have HX : Hid (chkS n l = 16) := Lib.hid (by rw [HC.out, if_pos (Or.inr h1)])
          have t1 : ((l.length : Int) == n) = true := by simpa using h1
          clear hkl h0 h1
          go_wp2
          go_ret
          exact ⟨ret_i HX.out.symm, _, rfl⟩
        · have HX : Hid (chkS n l = 0) := Lib.hid (by rw [HC.out, if_neg (fun e => e.elim (fun e => h0 (by rw [e]; rfl)) h1)])
          have t1 : ((l.length : Int) == n) = false := by simpa using h1
          clear hkl h0 h1
          go_wp2
          go_ret
          exact ⟨ret_i HX.out.symm, _, rfl⟩
end Go.Proofs.Ytbankocbncpepaa.Sd
/- What a call turns and what it leaves: 'Turn O': nothing but the blocks of O is otherwise; rows and lists over it. No function of the program is named. -/
namespace Go.Proofs.Ytbankocbncpepaa
open Go.RowKit Go.ChangeShapes
/-- Nothing but the blocks of O is otherwise; new ones may lie behind. -/
def Turn (O : Nat → Prop) (w w' : World) : Prop :=
  w'.os = w.os ∧ w'.tape = w.tape ∧ w'.output = w.output ∧ w.heap.size ≤ w'.heap.size ∧ ∀ k, k < w.heap.size → ¬ O k → w'.heap[k]? = w.heap[k]?
theorem Turn.refl (O : Nat → Prop) (w : World) : Turn O w w := ⟨rfl, rfl, rfl, Nat.le_refl _, fun _ _ _ => rfl⟩
theorem Turn.trans {O O' : Nat → Prop} {a b c : World} (h : Turn O a b) (k : Turn O' b c) (ho : ∀ x, O' x → O x ∨ a.heap.size ≤ x) : Turn O a c := by
  obtain ⟨h1, h2, h3, h4, h5⟩ := h
  obtain ⟨k1, k2, k3, k4, k5⟩ := k
  refine ⟨k1.trans h1, k2.trans h2, k3.trans h3, Nat.le_trans h4 k4, fun i hi e => (k5 i (Nat.lt_of_lt_of_le hi h4) (fun e2 => ?_)).trans (h5 i hi e)⟩
  rcases ho i e2 with e3 | e3
  · exact e e3
  · omega
theorem Turn.grown {O : Nat → Prop} {w w' : World} {row : Option Nat} (h : w.grownBy w' row) (ho : ∀ k, row = some k → O k) : Turn O w w' :=
  ⟨h.os, h.tape, h.output, h.size, fun k hk e => h.block k hk (fun e2 => e (ho k e2.symm))⟩
theorem Turn.cell {O : Nat → Prop} {b : Nat} (w : World) (i : Nat) (v : Value) (ho : O b) : Turn O w (w.setCell ⟨b, i, none⟩ v) :=
  ⟨rfl, rfl, rfl, by simp, fun k _ hk => Below.heap_setCell _ _ _ k (fun e => hk (by rw [show k = b from e]; exact ho))⟩
theorem Turn.ofBelow {O : Nat → Prop} {w w' : World} (h : Below w.heap.size w w') : Turn O w w' := ⟨h.os, h.tape, h.output, h.size, fun k hk _ => h.block k hk⟩
theorem Turn.drawn {O : Nat → Prop} {w w' : World} (h : Turn O w w') (k : Nat) : Turn O w (w'.drewN k) := h
theorem Turn.below {O : Nat → Prop} {M : Nat} {w w' : World} (h : Turn O w w') (hs : M ≤ w.heap.size) (ho : ∀ k, O k → M ≤ k) : Below M w w' := by
  obtain ⟨h1, h2, h3, h4, h5⟩ := h
  exact ⟨h1, h2, h3, h4, fun k hk => h5 k (by omega) (fun e => by have := ho k e; omega)⟩
theorem Turn.size {O : Nat → Prop} {w w' : World} (h : Turn O w w') : w.heap.size ≤ w'.heap.size := h.2.2.2.1
/-- Four cells of one block. -/
def FourAt (N : Nat) (w : World) (a b c d : Value) : Prop := RowIs N w [a, b, c, d]
theorem FourAt.cells {N : Nat} {w : World} {a b c d : Value} (h : FourAt N w a b c d) :
    (w.cell? ⟨N, 0, none⟩ = some a ∧ w.cell? ⟨N, 1, none⟩ = some b ∧ w.cell? ⟨N, 2, none⟩ = some c ∧ w.cell? ⟨N, 3, none⟩ = some d) ∧
    (w.frozen? ⟨N, 0, none⟩ = false ∧ w.frozen? ⟨N, 1, none⟩ = false ∧ w.frozen? ⟨N, 2, none⟩ = false ∧ w.frozen? ⟨N, 3, none⟩ = false) :=
  ⟨⟨(h 0 (by simp)).1, (h 1 (by simp)).1, (h 2 (by simp)).1, (h 3 (by simp)).1⟩, (h 0 (by simp)).2, (h 1 (by simp)).2, (h 2 (by simp)).2, (h 3 (by simp)).2⟩
theorem FourAt.lt {N : Nat} {w : World} {a b c d : Value} (h : FourAt N w a b c d) : N < w.heap.size := RowIs.lt h (by simp)
theorem FourAt.new (w : World) (a b c d : Value) (T : TypeId) : FourAt w.heap.size (w.alloc (.cells #[a, b, c, d] T)) a b c d := by
  intro i hi
  match i, hi with
  | 0, _ => exact ⟨by simp, by simp⟩
  | 1, _ => exact ⟨by simp, by simp⟩
  | 2, _ => exact ⟨by simp, by simp⟩
  | 3, _ => exact ⟨by simp, by simp⟩
theorem row_same {b : Nat} {w w' : World} {vs : List Value} (h : RowIs b w vs) (hk : w'.heap[b]? = w.heap[b]?) : RowIs b w' vs :=
  fun i hi => ⟨(World.cell?_of_block hk).trans (h i hi).1, (World.frozen?_of_block hk).trans (h i hi).2⟩
theorem owns_same {w w' : World} {B : Nat} {e : TypeId} {size n : Nat} {v : Value} {xs : List Value} (h : w.ownsRow B e size v n xs) (hk : ∀ k, v.ownBlock = some k → w'.heap[k]? = w.heap[k]?) : w'.ownsRow B e size v n xs := by
  obtain ⟨h1, h2 | ⟨g, cap, cur, rfl, h3, h4, h5⟩⟩ := h
  · exact ⟨h1, Or.inl h2⟩
  · exact ⟨h1, Or.inr ⟨g, cap, cur, rfl, h3, (hk g rfl).trans h4, h5⟩⟩
/-- Where there are cells they lie in a block of their own. -/
theorem owns_slice {w : World} {B n : Nat} {e : TypeId} {size : Nat} {v : Value} {xs : List Value} (h : w.ownsRow B e size v n xs) (hn : 0 < n) : ∃ g cap, v = .slice (some ⟨g, 0, none⟩) n cap ∧ B ≤ g ∧ g < w.heap.size := by
  have hl := h.lt
  obtain ⟨h1, ⟨h2, h3⟩ | ⟨g, cap, cur, rfl, h3, h4, h5⟩⟩ := h
  · omega
  · exact ⟨g, cap, rfl, h3, (hl g rfl).2⟩
theorem owns_any {w : World} {B n : Nat} {e : TypeId} {size : Nat} {v : Value} {xs : List Value} (h : w.ownsRow B e size v n xs) : ∃ q cap, v = .slice q n cap := by
  obtain ⟨h1, ⟨h2, h3⟩ | ⟨g, cap, cur, rfl, h3, h4, h5⟩⟩ := h
  · exact ⟨none, 0, by rw [h2, h3]⟩
  · exact ⟨_, cap, rfl⟩
theorem four_set {b : Nat} {w : World} {v0 v1 v2 v3 : Value} (h : FourAt b w v0 v1 v2 v3) (u : Value) :
    FourAt b (w.setCell ⟨b, 1, none⟩ u) v0 u v2 v3 ∧ FourAt b (w.setCell ⟨b, 2, none⟩ u) v0 v1 u v3 ∧ FourAt b (w.setCell ⟨b, 3, none⟩ u) v0 v1 v2 u :=
  ⟨RowIs.set h (k := 1) (by simp) u, RowIs.set h (k := 2) (by simp) u, RowIs.set h (k := 3) (by simp) u⟩
theorem cell_other {w : World} {b i k : Nat} {v : Value} (h : k ≠ b) : (w.setCell ⟨b, i, none⟩ v).heap[k]? = w.heap[k]? := Below.heap_setCell _ _ _ k (fun e => h e)
theorem reads_same {α : Type} {enc : α → Value} {w w' : World} {q : Option Addr} {l : List α} (h : ReadsL enc w.heap.size w q l) (hk : ∀ z, q = some z → w'.heap[z.block]? = w.heap[z.block]?) (hs : w.heap.size ≤ w'.heap.size) : ReadsL enc w'.heap.size w' q l := by
  rcases h with h | ⟨b, off, rfl, hN, hc⟩
  · exact Or.inl h
  · exact Or.inr ⟨b, off, rfl, Nat.lt_of_lt_of_le hN hs, fun i hi => (World.cell?_of_block (a := ⟨b, off + i, none⟩) (hk ⟨b, off, none⟩ rfl)).trans (hc i hi)⟩
theorem reads_news {α : Type} {enc : α → Value} {N : Nat} {w : World} {ad : Addr} {l : List α} (h : ReadsL enc N w (some ad) l) : ∀ j u, (l.map enc)[j]? = some u → w.cell? (ad.add j) = some u := by
  intro j u hj
  rcases h with h | ⟨b, off, e, -, hc⟩
  · subst h; simp at hj
  · cases e
    obtain ⟨hjl, rfl⟩ := List.getElem?_eq_some_iff.1 hj
    rw [List.getElem_map, addr_add]
    exact hc j (by simpa using hjl)
theorem owns_apart {w : World} {B B' n n' s s' : Nat} {e e' : TypeId} {v v' : Value} {xs xs' : List Value} (h : w.ownsRow B e s v n xs) (h' : w.ownsRow B' e' s' v' n' xs') (hne : e ≠ e') : ∀ k, v.ownBlock = some k → v'.ownBlock ≠ some k := by
  intro k hk hk'
  obtain ⟨-, ⟨rfl, -⟩ | ⟨g, cap, cur, rfl, -, hg, -⟩⟩ := h
  · simp [Value.ownBlock] at hk
  obtain ⟨-, ⟨rfl, -⟩ | ⟨g', cap', cur', rfl, -, hg', -⟩⟩ := h'
  · simp [Value.ownBlock] at hk'
  simp [Value.ownBlock] at hk hk'
  subst hk
  subst hk'
  rw [hg] at hg'
  simp at hg'
  exact hne hg'.2
theorem info_int : ∃ i, (Try.prog.info? 3) = some i ∧ i.zero = some (.int .i64 0) ∧ i.size = 1 ∧ i.bytes = 8 := info_of (by kernel_rfl)
/-- What a call that gathers numbers answers. -/
def ListOut (l : List Int) (w w' : World) (v : Value) : Prop := ∃ q c, v = .slice q l.length c ∧ ReadsL encZ w'.heap.size w' q l ∧ Below w.heap.size w w'
end Go.Proofs.Ytbankocbncpepaa
