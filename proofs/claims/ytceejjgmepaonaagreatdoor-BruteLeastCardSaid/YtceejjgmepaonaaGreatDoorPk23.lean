/- Texts that the laws of this seat stand on, part 23. -/
import Derived.Test.YtceejjgmepaonaaGreatDoorPk22
import Derived.Test.YtceejjgmepaonaaGreatDoorPk8
import Derived.Test.YtceejjgmepaonaaGreatDoorPk7
import Derived.Deep.RegionHeld3
/- The document's Crossing, Weight, Other and Normal (layer 21). -/
namespace Go.Proofs.YtceejjgmepaonaaGreatDoor.Sd
open Go.RowKit Go.ChangeShapes EdPure NtPure CutPure SdPure Cm
set_option maxRecDepth 100000 in
set_option maxHeartbeats 2000000 in
theorem refCrossing_any (n : Int) (a : Option Addr) (c : Nat) (M : List Ed) (hm : M.length ≤ 100000) (b : Option Addr) (d : Nat) (l : List Int) (hl : l.length ≤ 1000000000) (w : World) (hR : ReadsE w.heap.size w a M) (hS : ReadsL encZ w.heap.size w b l) :
    Calls Tryz.prog 50 #[.agg #[.int .i64 n, .slice a M.length c], .slice b l.length d] w fun e w' => IntsOf (crossL M (inS l) M.length) w e w' := by
  have HB0 : Hid (BoxSt w w.heap.size n a c M (w.alloc (.cells #[.int .i64 n, .slice a M.length c] 34))) := Lib.hid (BoxSt.start hR)
  have HS0 : Hid (ReadsL encZ (w.alloc (.cells #[.int .i64 n, .slice a M.length c] 34)).heap.size (w.alloc (.cells #[.int .i64 n, .slice a M.length c] 34)) b l) := Lib.hid (hS.over ((Below.refl _ _).alloc (Nat.le_refl _) _) (Nat.le_refl _))
  obtain ⟨ti, hi1, hi2, hi3, hi4⟩ := info_int
  clear hR hS
  go_enter Tryz.func50, Tryz.ntmps50
  go_wp2_with fail
  generalize w.alloc (.cells #[.int .i64 n, .slice a M.length c] 34) = W0 at *
  generalize w.heap.size = X at *
  go_loopw [5, 6] (fun s i wr => ∃ (k : Nat) (v : Value), v = s ∧ i = .int .i64 k ∧ k ≤ M.length ∧ Hid (GrowRel encZ 3 W0 (crossL M (inS l) k) v wr)) (fun _ i _ => M.length - (intOf i).toNat)
  case atStart => exact ⟨0, _, rfl, rfl, Nat.zero_le _, Lib.hid (GrowRel.start _ _ _)⟩
  case round =>
    obtain ⟨k, v, rfl, rfl, hk, HK⟩ := hrel
    have HB := Lib.hid (HB0.out.keep HK.out.1)
    have HSr := Lib.hid (HS0.out.over HK.out.1 (Nat.le_refl _))
    obtain ⟨d0, d1, -, -⟩ := HB.out.2.1
    have dl := HB.out.2.1.lt
    by_cases hlt : k < M.length
    · have i1 : (k : Int) < (M.length : Int) := by omega
      obtain ⟨x, y, z, he⟩ : ∃ x y z, M[k] = (x, y, z) := ⟨_, _, _, rfl⟩
      obtain ⟨b1, off, rfl, -, hbr, c0, c1, c2⟩ := HB.out.2.2.cells hlt (Below.refl _ _) he
      have hcr := cross_succ (inS l) hlt
      rw [he] at hcr
      have HCR := Lib.hid hcr
      have hlen := cross_len M (inS l) hk
      have hsz := HK.out.1.size
      clear hcr he
      have HI := Lib.hid (fun v W h => in_any b d l hl v W h)
      have hcb : crossB (inS l) (x, y, z) = (inS l x != inS l y) := rfl
      rw [hcb] at HCR
      clear hcb
      by_cases hc : inS l x = inS l y
      · have t : (!inS l x == inS l y) = false := by simpa using hc
        have HX : Hid (crossL M (inS l) (k + 1) = crossL M (inS l) k) := Lib.hid (by rw [HCR.out, if_neg (by simpa using hc), List.append_nil])
        go_wp2
        go_quiet (first | (go_at_call 64; exact Calls.quiet_of_same (HI.out _ _ HSr.out)))
        have HK2 := Lib.hid (HK.out.on (below_drewN (Below.refl _ _) nq))
        clear HK
        go_wp2
        go_roundw
        case rel => exact ⟨k + 1, v, rfl, by go_num, hlt, by rw [HX.out]; exact HK2⟩
        case measure => simp [intOf]; omega
      · have HX : Hid (crossL M (inS l) (k + 1) = crossL M (inS l) k ++ [(k : Int)]) := Lib.hid (by rw [HCR.out, if_pos (by simpa using hc)])
        have t : (!inS l x == inS l y) = true := by simpa using hc
        go_wp2
        go_quiet (first | (go_at_call 64; exact Calls.quiet_of_same (HI.out _ _ HSr.out)))
        have HK2 := Lib.hid (HK.out.on (below_drewN (Below.refl _ _) nq))
        clear HK hlen
        have hlen := cross_len M (inS l) hk
        generalize crossL M (inS l) k = xs at *
        have hsz2 : W0.heap.size ≤ (wr.drewN nq).heap.size := HK2.out.1.size
        generalize wr.drewN nq = V at *
        go_wp2_with (first
          | (at_builtin; refine wpList_append_own _ rfl _ _ 28 rfl W0.heap.size 3 ti (.int .i64 0) 1 8 Tryz.underlying28 hi1 hi2 hi3 hi4 rfl (by decide) v xs.length (xs.map encZ) rfl (HK2.out.2.alloc _) ⟨V.heap.size, 0, none⟩ 1 1 [.int .i64 (k : Int)] rfl rfl one_news (by intro u hu; simp at hu; subst hu; rfl) (by unfold maxLen; omega) (by omega) (by simp; omega) ?_; intro v' w6 hown6 hg6 _; have hst := HK2.out.step (k : Int) hown6 hg6; rw [← HX.out] at hst; have HS6 := Lib.hid hst; clear hst hown6 hg6))
        go_roundw
        case rel => exact ⟨k + 1, v', rfl, by go_num, hlt, HS6⟩
        case measure => simp [intOf]; omega
    · obtain rfl : k = M.length := by omega
      obtain ⟨p, cp, rfl, hr, -⟩ := HK.out.reads
      have HR := Lib.hid hr
      have HBB := Lib.hid (HB0.out.1.trans (HK.out.1.mono HB0.out.1.size))
      clear hr HK HB
      go_wp2
      go_ret
      exact ⟨HBB.out, p, cp, rfl, HR.out⟩
set_option maxRecDepth 100000 in
set_option maxHeartbeats 2000000 in
theorem refWeight_any (n : Int) (a : Option Addr) (c : Nat) (M : List Ed) (hm : M.length ≤ 100000) (hn : NonNeg M) (ha : allW M ≤ 2251799813685248) (b : Option Addr) (d : Nat) (l : List Int) (hl : l.length ≤ 1000000000) (w : World) (hR : ReadsE w.heap.size w a M) (hS : ReadsL encZ w.heap.size w b l) :
    Calls Tryz.prog 29 #[.agg #[.int .i64 n, .slice a M.length c], .slice b l.length d] w fun e w' => e = .returned (.int .i64 (cutW M (inS l))) ∧ Below w.heap.size w w' := by
  have HB0 : Hid (BoxSt w w.heap.size n a c M (w.alloc (.cells #[.int .i64 n, .slice a M.length c] 34))) := Lib.hid (BoxSt.start hR)
  have HS0 : Hid (ReadsL encZ (w.alloc (.cells #[.int .i64 n, .slice a M.length c] 34)).heap.size (w.alloc (.cells #[.int .i64 n, .slice a M.length c] 34)) b l) := Lib.hid (hS.over ((Below.refl _ _).alloc (Nat.le_refl _) _) (Nat.le_refl _))
  have HW : Hid (wtL M (crossL M (inS l) M.length) = cutW M (inS l)) := Lib.hid (wt_all (inS l))
  have HMem : Hid (∀ x ∈ crossL M (inS l) M.length, 0 ≤ x ∧ x < M.length) := Lib.hid (fun x hx => cross_mem (Nat.le_refl _) hx)
  have HLen : Hid ((crossL M (inS l) M.length).length ≤ M.length) := Lib.hid (cross_len M (inS l) (Nat.le_refl _))
  have HPart : Hid (∀ k, 0 ≤ wtL M ((crossL M (inS l) M.length).take k) ∧ wtL M ((crossL M (inS l) M.length).take k) ≤ 2251799813685248) := Lib.hid (fun k => by
    have hnn : ∀ x, 0 ≤ wtN M x := fun x => by
      unfold wtN
      rw [List.getD_eq_getElem?_getD]
      cases hx : M[x.toNat]? with
      | none => simp
      | some e => exact hn e (List.mem_of_getElem? hx)
    have hpos : ∀ c : List Int, 0 ≤ wtL M c := fun c => by
      induction c with
      | nil => exact Int.le_refl _
      | cons x c ih => have := hnn x; have e : wtL M (x :: c) = wtN M x + wtL M c := by unfold wtL; simp
                       omega
    refine ⟨hpos _, ?_⟩
    have h1 : wtL M (crossL M (inS l) M.length) = wtL M ((crossL M (inS l) M.length).take k) + wtL M ((crossL M (inS l) M.length).drop k) := by
      conv => lhs; rw [← List.take_append_drop k (crossL M (inS l) M.length)]
      unfold wtL
      rw [List.map_append, List.sum_append]
    have h2 := hpos ((crossL M (inS l) M.length).drop k)
    have h3 := cut_le_all hn (inS l)
    have h4 := wt_all (M := M) (inS l)
    omega)
  clear hR hS
  go_enter Tryz.func29, Tryz.ntmps29
  go_wp2_with fail
  generalize w.alloc (.cells #[.int .i64 n, .slice a M.length c] 34) = W0 at *
  generalize w.heap.size = X at *
  obtain ⟨d0, d1, -, -⟩ := HB0.out.2.1
  have dl := HB0.out.2.1.lt
  go_wp2_with fail
  refine (refCrossing_any n a c M hm b d l hl W0 HB0.out.2.2 HS0.out).mono ?_
  rintro e w1 ⟨hb1, q, cq, rfl, hr1⟩
  have HB := Lib.hid (HB0.out.keep hb1)
  have HR := Lib.hid hr1
  clear hb1 hr1 d0 d1 dl HB0 HS0
  generalize crossL M (inS l) M.length = xs at *
  obtain ⟨d0, d1, -, -⟩ := HB.out.2.1
  have dl := HB.out.2.1.lt
  go_wp2
  go_loopw [5, 7] (fun s i wr => ∃ (k m : Nat) (S : Int), s = .int .i64 S ∧ i = .int .i64 k ∧ k ≤ xs.length ∧ Hid (S = wtL M (xs.take k)) ∧ wr = w1.drewN m) (fun _ i _ => xs.length - (intOf i).toNat)
  case atStart => exact ⟨0, 0, 0, rfl, rfl, Nat.zero_le _, Lib.hid rfl, rfl⟩
  case round =>
    obtain ⟨k, m, S, rfl, rfl, hk, HK, rfl⟩ := hrel
    have hlen := HLen.out
    by_cases hlt : k < xs.length
    · have i1 : (k : Int) < (xs.length : Int) := by omega
      have i0 : (0 : Int) ≤ (k : Int) := by omega
      obtain ⟨b1, off, rfl, hbr, c0⟩ := HR.out.at hlt
      obtain ⟨x0, x1⟩ := HMem.out xs[k] (List.getElem_mem hlt)
      have hT := take_one hlt
      have hp1 := HPart.out (k + 1)
      have hp0 := HPart.out k
      rw [← HK.out] at hp0
      rw [hT, wt_snoc, ← HK.out] at hp1
      have hS2 : S + wtN M xs[k] = wtL M (xs.take (k + 1)) := by rw [hT, wt_snoc, ← HK.out]
      clear hT
      generalize xs[k] = x at *
      obtain ⟨j, rfl⟩ : ∃ j : Nat, x = (j : Int) := ⟨x.toNat, by omega⟩
      have hj : j < M.length := by omega
      obtain ⟨u, v, z, he⟩ : ∃ u v z, M[j] = (u, v, z) := ⟨_, _, _, rfl⟩
      obtain ⟨b2, off2, rfl, -, hbr2, g0, g1, g2⟩ := HB.out.2.2.cells hj (Below.refl _ _) he
      have hwt : wtN M (j : Int) = z := by unfold wtN; rw [List.getD_eq_getElem?_getD, Int.toNat_natCast, List.getElem?_eq_getElem hj, he]; rfl
      rw [hwt] at hS2 hp1
      unfold encZ at c0
      have e1 : IntKind.i64.wrap (S + z) = S + z := IntWalk.i64_in _ (by omega)
      have HN := Lib.hid hS2
      clear hS2 hwt he hj
      go_wp2
      go_quiet (fail)
      go_wp2
      go_roundw
      case rel => exact ⟨k + 1, _, S + z, rfl, by go_num, hlt, HN, rfl⟩
      case measure => simp [intOf]; omega
    · have hkl : k = xs.length := by omega
      have HX : Hid (S = cutW M (inS l)) := Lib.hid (by have := HK.out; rw [hkl, List.take_length] at this; rw [this]; exact HW.out)
      have HBB := Lib.hid (below_drewN HB.out.1 m)
      clear hkl
      go_wp2
      go_ret
      exact ⟨ret_i HX.out, HBB.out⟩
end Go.Proofs.YtceejjgmepaonaaGreatDoor.Sd
/- A drawn region whose operations may come up in many orders, gone over by what is done, not by the order: what is left of it as a letter (G), the frame as a function of what was made (F). No function of the program is named. -/
namespace Go.Proofs.YtceejjgmepaonaaGreatDoor
open Go.RowKit Go.ChangeShapes
theorem dag_of {P : Program} {md : Region.Mode} {ops : Array Oper} {Q : Exit → Act → World → Prop} {S : World → Prop} {n : Nat} {d : Array Bool} {a : Act} {w : World}
    (h : ∀ G : Nat → Array Bool → Act → World → Prop, (∀ n d a w, wpAnyH P md ops Q S n d a w → G n d a w) → (∀ n d a w, G n d a w → wpAnyH P md ops Q S n d a w) → G n d a w) : wpAnyH P md ops Q S n d a w :=
  h (fun n d a w => wpAnyH P md ops Q S n d a w) (fun _ _ _ _ h => h) (fun _ _ _ _ h => h)
/-- The same, with each operation's step as a letter (T), so that a call's step is walked once, whatever was laid so far. -/
theorem dag_of2 {P : Program} {md : Region.Mode} {ops : Array Oper} {Q : Exit → Act → World → Prop} {S : World → Prop} {n : Nat} {d : Array Bool} {a : Act} {w : World}
    (h : ∀ (G : Nat → Array Bool → Act → World → Prop) (T : Nat → Act → World → (Act → World → Prop) → Prop), (∀ n d a w, wpAnyH P md ops Q S n d a w → G n d a w) → (∀ n d a w, G n d a w → wpAnyH P md ops Q S n d a w) →
      (∀ i o, ops[i]? = some o → ∀ a w K, (if Region.wanted o (yielded ops a.tmps) = true then Oper.wp P o a w K Q else K (a.put o.dst undef) w) ↔ T i a w K) → G n d a w) : wpAnyH P md ops Q S n d a w :=
  h (fun n d a w => wpAnyH P md ops Q S n d a w) (fun i a w K => ∀ o, ops[i]? = some o → if Region.wanted o (yielded ops a.tmps) = true then Oper.wp P o a w K Q else K (a.put o.dst undef) w) (fun _ _ _ _ h => h) (fun _ _ _ _ h => h)
    (fun i o ho a w K => ⟨fun h o' ho' => by rw [ho] at ho'; obtain rfl := Option.some.inj ho'; exact h, fun h => h o ho⟩)
/-- An operation is taken first; where its value goes is told as it stands (else each step holds the whole list of operations in its 'dst'). -/
theorem dag_take {P : Program} {md : Region.Mode} {ops : Array Oper} {Q : Exit → Act → World → Prop} {S : World → Prop} {i d : Nat} {oi : Oper} {v : Value} {fuel : Nat} {listed : Array Bool} {a : Act} {w : World} (hi : ops[i]? = some oi) (hd : oi.dst = some d)
    (hs : Region.noSelect ops = true) (hf : Region.free md ops listed i = true) (hr : (Region.ready md ops listed).contains i = true)
    (hQ : ∀ c a w, Q (.panic c) (a.put oi.dst v) w → Q (.panic c) a w) (hy : YieldsIf P ops S oi v a) (hS : S w)
    (h : wpAnyH P md ops Q S fuel (listed.setIfInBounds i true) (a.put (some d) v) w) : wpAnyH P md ops Q S (fuel + 1) listed a w :=
  wpAnyH_take hi hs hf hr hQ hy hS (hd ▸ h)
theorem dag_frame4 {G : Nat → Array Bool → Act → World → Prop} {n : Nat} {d : Array Bool} {a : Act} {w : World} (i1 i2 i3 i4 : Nat)
    (h : ∀ F : Value → Value → Value → Value → Act, (∀ x1 x2 x3 x4, F x1 x2 x3 x4 = ((((a.put (some i1) x1).put (some i2) x2).put (some i3) x3).put (some i4) x4)) → G n d a w) : G n d a w := h _ (fun _ _ _ _ => rfl)
theorem dag_frame6 {G : Nat → Array Bool → Act → World → Prop} {n : Nat} {d : Array Bool} {a : Act} {w : World} (i1 i2 i3 i4 i5 i6 : Nat)
    (h : ∀ F : Value → Value → Value → Value → Value → Value → Act, (∀ x1 x2 x3 x4 x5 x6, F x1 x2 x3 x4 x5 x6 = ((((((a.put (some i1) x1).put (some i2) x2).put (some i3) x3).put (some i4) x4).put (some i5) x5).put (some i6) x6)) → G n d a w) : G n d a w := h _ (fun _ _ _ _ _ _ => rfl)
theorem two_other {N M : Nat} {w : World} {u v : Value} (h : TwoAt N w u v) (hne : N ≠ M) (a b : Value) : TwoAt N ((w.setCell ⟨M, 0, none⟩ a).setCell ⟨M, 1, none⟩ b) u v := by
  obtain ⟨h0, h1, f0, f1⟩ := h
  refine ⟨?_, ?_, by simpa using f0, by simpa using f1⟩
  · rw [World.cell?_setCell_other _ ⟨M, 1, none⟩ ⟨N, 0, none⟩ _ (fun e => hne (congrArg Addr.block e).symm), World.cell?_setCell_other _ ⟨M, 0, none⟩ ⟨N, 0, none⟩ _ (fun e => hne (congrArg Addr.block e).symm)]; exact h0
  · rw [World.cell?_setCell_other _ ⟨M, 1, none⟩ ⟨N, 1, none⟩ _ (fun e => hne (congrArg Addr.block e).symm), World.cell?_setCell_other _ ⟨M, 0, none⟩ ⟨N, 1, none⟩ _ (fun e => hne (congrArg Addr.block e).symm)]; exact h1
theorem below_lay2 {N : Nat} {w0 w : World} {X : Nat} {a b : Value} (h : Below N w0 w) (hX : N ≤ X) : Below N w0 ((w.setCell ⟨X, 0, none⟩ a).setCell ⟨X, 1, none⟩ b) :=
  (h.setCell (p := ⟨X, 0, none⟩) hX a).setCell (p := ⟨X, 1, none⟩) hX b
theorem dag_at {G : Nat → Array Bool → Act → World → Prop} {n n' : Nat} {d d' : Array Bool} {a a' : Act} {w : World} (h : G n d a w) (hn : n = n') (hd : d = d') (ha : a = a') : G n' d' a' w := by subst hn; subst hd; subst ha; exact h
/-- Variables of two numbers that were laid so far, behind w0. -/
def VarsSt (w0 : World) (o : List (Option Nat)) (w : World) : Prop :=
  Below w0.heap.size w0 w ∧ (∀ X, some X ∈ o → w0.heap.size ≤ X ∧ TwoAt X w (.int .i64 0) (.int .i64 0)) ∧ ∀ (i j : Nat) (X Y : Nat), o[i]? = some (some X) → o[j]? = some (some Y) → i ≠ j → X ≠ Y
theorem VarsSt.start {w0 w : World} {o : List (Option Nat)} (h : Below w0.heap.size w0 w) (ho : ∀ x ∈ o, x = none) : VarsSt w0 o w :=
  ⟨h, fun X hX => (by have := ho _ hX; cases this), fun i _ X _ hi _ _ => (by have := ho _ (List.mem_of_getElem? hi); cases this)⟩
theorem VarsSt.keep {w0 w w' : World} {o : List (Option Nat)} (h : VarsSt w0 o w) (hb : Below w.heap.size w w') : VarsSt w0 o w' :=
  ⟨h.1.trans (hb.mono h.1.size), fun X hX => ⟨(h.2.1 X hX).1, (h.2.1 X hX).2.on hb (h.2.1 X hX).2.lt⟩, h.2.2⟩
theorem VarsSt.alloc {w0 w : World} {o : List (Option Nat)} (h : VarsSt w0 o w) (i : Nat) (T : TypeId) : VarsSt w0 (o.set i (some w.heap.size)) (w.alloc (.cells #[.int .i64 0, .int .i64 0] T)) := by
  have hk := h.keep ((Below.refl _ _).alloc (Nat.le_refl _) (.cells #[.int .i64 0, .int .i64 0] T))
  have old : ∀ (k : Nat) (Y : Nat), o[k]? = some (some Y) → Y < w.heap.size := fun k Y hY => (h.2.1 Y (List.mem_of_getElem? hY)).2.lt
  have key : ∀ (k : Nat) (Y : Nat), (o.set i (some w.heap.size))[k]? = some (some Y) → (k = i ∧ Y = w.heap.size) ∨ (k ≠ i ∧ o[k]? = some (some Y)) := fun k Y hY => by
    by_cases e : k = i
    · subst e
      have hlt : k < o.length := by
        have := (List.getElem?_eq_some_iff.1 hY).1
        simpa using this
      rw [List.getElem?_set_self hlt] at hY
      exact Or.inl ⟨rfl, (Option.some.inj (Option.some.inj hY)).symm⟩
    · rw [List.getElem?_set_ne (fun e2 => e e2.symm)] at hY
      exact Or.inr ⟨e, hY⟩
  refine ⟨hk.1, fun X hX => ?_, fun a b X Y ha hb hab => ?_⟩
  · obtain ⟨k, hk2⟩ := List.getElem?_of_mem hX
    rcases key k X hk2 with ⟨-, rfl⟩ | ⟨-, h2⟩
    · exact ⟨h.1.size, TwoAt.new _ _ _ _⟩
    · exact hk.2.1 X (List.mem_of_getElem? h2)
  · rcases key a X ha with ⟨rfl, rfl⟩ | ⟨e1, h1⟩ <;> rcases key b Y hb with ⟨rfl, rfl⟩ | ⟨e2, h2⟩
    · exact absurd rfl hab
    · have := old b Y h2; omega
    · have := old a X h1; omega
    · exact h.2.2 a b X Y h1 h2 hab
end Go.Proofs.YtceejjgmepaonaaGreatDoor
