/- Texts that the laws of this seat stand on, part 17. -/
import Derived.Test.YtceejjgmepaonaaGreatDoorPk16
import Derived.RangeFuncNested
import Derived.Stop.RegionWithIn
import Derived.Test.YtceejjgmepaonaaGreatDoorPk8
import Derived.Maps.OwnSet
import Derived.Maps.RangeWalk
import Derived.WideKeyPair
import Derived.WalkMore
/- more's contract: how much more a side weighs once a vertex has changed over, told by the vertex's row. -/
namespace Go.Proofs.YtceejjgmepaonaaGreatDoor.Bg
open Go.RowKit Go.ChangeShapes BgPure
attribute [local go_sem] Oper.semAt_some
/-- Only one block is turned since. -/
def OnlyB (W3 : World) (X0 : Nat) (W : World) : Prop := W3.grownBy W (some X0)
theorem OnlyB.refl (W : World) (X : Nat) : OnlyB W X W := ⟨rfl, rfl, rfl, Nat.le_refl _, fun _ _ _ => rfl⟩
theorem OnlyB.below {W3 W W' : World} {X0 : Nat} (h : OnlyB W3 X0 W) (hb : Below W.heap.size W W') : OnlyB W3 X0 W' :=
  ⟨hb.os.trans h.os, hb.tape.trans h.tape, hb.output.trans h.output, Nat.le_trans h.size hb.size, fun k hk hr => (hb.block k (Nat.lt_of_lt_of_le hk h.size)).trans (h.block k hk hr)⟩
theorem onlyB_own {β : Type} (W3 : World) (X0 : Nat) : OwnFrom W3.heap.size (fun (_ : β) W => OnlyB W3 X0 W) :=
  fun _ W W' row h hg hr => ⟨hg.os.trans h.os, hg.tape.trans h.tape, hg.output.trans h.output, Nat.le_trans h.size hg.size, fun k hk hx => (hg.block k (Nat.lt_of_lt_of_le hk h.size) (fun e => by have := (hr k e.symm).1; omega)).trans (h.block k hk hx)⟩
theorem OnlyB.cell {W3 W : World} {X0 : Nat} (h : OnlyB W3 X0 W) {p : Addr} {v : Value} (hc : W3.cell? p = some v) (hne : p.block ≠ X0) : W.cell? p = some v :=
  (World.cell?_of_block (h.block _ (World.block_lt_of_cell? W3 _ hc) (fun e => hne (Option.some.inj e)))).trans hc
theorem OnlyB.set {W3 W : World} {X0 : Nat} (h : OnlyB W3 X0 W) (v : Value) : OnlyB W3 X0 (W.setCell ⟨X0, 0, none⟩ v) := by
  have g := grownBy_setCell' W X0 v
  exact ⟨g.os.trans h.os, g.tape.trans h.tape, g.output.trans h.output, Nat.le_trans h.size g.size, fun k hk hr => (g.block k (Nat.lt_of_lt_of_le hk h.size) hr).trans (h.block k hk hr)⟩
theorem grown_drew {W W' : World} {row : Option Nat} (h : W.grownBy W' row) : W.grownBy W'.drew row := ⟨h.os, h.tape, h.output, h.size, h.block⟩
theorem OnlyB.big {w W3 W : World} {X0 : Nat} (h : OnlyB W3 X0 W) {B : Nat} (hb : Below B w W3) (hs : B ≤ W3.heap.size) (hX : B ≤ X0) : Below B w W := hb.grown h hs (fun k e => by cases e; exact hX)
/-- What some of a row weigh together. -/
def rowN (l : List Int) (pre : List Nat) : Int := (pre.map fun u => l.getD u 0).sum
theorem rowN_snoc (l : List Int) (pre : List Nat) (x : Nat) : rowN l (pre ++ [x]) = rowN l pre + l.getD x 0 := by unfold rowN; simp
def Fits (l : List Int) : Prop := ∀ x ∈ l, 0 ≤ x ∧ x ≤ 2251799813685248
theorem Fits.get {l : List Int} (h : Fits l) (u : Nat) : 0 ≤ l.getD u 0 ∧ l.getD u 0 ≤ 2251799813685248 := by
  rw [List.getD_eq_getElem?_getD]
  by_cases hu : u < l.length
  · rw [List.getElem?_eq_getElem hu]; exact h _ (List.getElem_mem hu)
  · rw [List.getElem?_eq_none (by omega)]; simp
theorem rowN_rng {l : List Int} (h : Fits l) : ∀ pre : List Nat, 0 ≤ rowN l pre ∧ rowN l pre ≤ 2251799813685248 * pre.length
  | [] => by simp [rowN]
  | x :: pre => by
    have := rowN_rng h pre
    have hx := h.get x
    have e : rowN l (x :: pre) = l.getD x 0 + rowN l pre := by unfold rowN; simp
    rw [e, List.length_cons]
    omega
theorem take_sum {l : List Int} {k : Nat} (hk : k < l.length) : (l.take (k + 1)).sum = (l.take k).sum + l[k] := by
  rw [List.take_succ_eq_append_getElem hk, List.sum_append]; simp
theorem sum_rng {l : List Int} (h : Fits l) : 0 ≤ l.sum ∧ l.sum ≤ 2251799813685248 * l.length := by
  induction l with
  | nil => simp
  | cons x l ih =>
    have h1 := ih (fun y hy => h y (by simp [hy]))
    have h2 := h x (by simp)
    rw [List.sum_cons, List.length_cons]
    omega
theorem Fits.take {l : List Int} (h : Fits l) (k : Nat) : Fits (l.take k) := fun x hx => h x (List.mem_of_mem_take hx)
theorem grp_lt {g n x : Nat} (hg : g < 2 ^ n) (hx : x ∈ grpN g) : x < n := by
  have h := (VsetPure.listP_mem.1 hx).2
  apply Classical.byContradiction
  intro hc
  rw [Nat.testBit_lt_two_pow (Nat.lt_of_lt_of_le hg (Nat.pow_le_pow_right (by decide) (Nat.le_of_not_lt hc)))] at h
  cases h
/-- The two variables of the call, while the row is summed up. -/
def MoSt (w : World) (B : Nat) (v : Value) (s : Int) (W : World) : Prop := Below B w W ∧ Boxed W B 108 v ∧ Boxed W (B + 1) 2 (.int .i64 s)
theorem mo_start (w : World) (v : Value) : MoSt w w.heap.size v 0 ((w.alloc (.cells #[v] 108)).alloc (.cells #[.int .i64 0] 2)) := by
  refine ⟨((Below.refl _ _).alloc (Nat.le_refl _) _).alloc (by simp) _, (Boxed.new w _ _).alloc _, ?_⟩
  have := Boxed.new (w.alloc (.cells #[v] 108)) 2 (.int .i64 0)
  rwa [World.size_alloc] at this
theorem MoSt.put {w W : World} {B : Nat} {v : Value} {s : Int} (h : MoSt w B v s W) (x : Int) : MoSt w B v x (W.setCell ⟨B + 1, 0, none⟩ (.int .i64 x)) :=
  ⟨h.1.setCell (p := ⟨B + 1, 0, none⟩) (Nat.le_succ _) _, h.2.1.other (by omega) _, h.2.2.set _⟩
theorem take_rng {l : List Int} (h : Fits l) (hN : l.length ≤ 31) (k : Nat) : 0 ≤ (l.take k).sum ∧ (l.take k).sum ≤ 72057594037927936 := by
  have h1 := sum_rng (h.take k)
  have h2 : (l.take k).length ≤ 31 := by rw [List.length_take]; omega
  omega
set_option maxRecDepth 100000 in
set_option maxHeartbeats 4000000 in
theorem more_fac (q : Option Addr) (c : Nat) (l : List Int) (g v : Nat) (hN : l.length ≤ 31) (hg : g < 2 ^ l.length) (hv : v < l.length) (hl : Fits l) (w : World) (hT : Tab w) (hR : ReadsL encZ w.heap.size w q l) (tb : Bool) (htb : g.testBit v = tb) :
    Calls Tryz.prog 53 #[.slice q l.length c, .int .u32 (g : Int), .int .i64 (v : Int)] w fun e w' => e = .returned (.int .i64 (l.sum - 2 * rowN l (grpN (if tb = true then othG l.length g else g)))) ∧ Below w.heap.size w w' := by
  have h31 : 2 ^ l.length ≤ 2 ^ 31 := Nat.pow_le_pow_right (by decide) hN
  obtain ⟨b, off, rfl, hb, hc⟩ : ∃ b off, q = some ⟨b, off, none⟩ ∧ b < w.heap.size ∧ ∀ i (h : i < l.length), w.cell? ⟨b, off + i, none⟩ = some (encZ l[i]) := by
    rcases hR with h | h
    · subst h; simp at hv
    · exact h
  have HC := Lib.hid hc
  have HL := Lib.hid hl
  have HT := Lib.hid hT
  have HH := Lib.hid (has_any g v (by omega) (by omega))
  rw [htb] at HH
  have HO := Lib.hid (other_any g l.length hN hg)
  have hfl : (if tb = true then othG l.length g else g) < 4294967296 := by
    have : othG l.length g < 2 ^ l.length := oth_lt
    split <;> omega
  have HB0 := Lib.hid hb
  have hbx : w.cell? ⟨b, off, none⟩ = some (encZ (l.getD 0 0)) := by
    have := hc 0 (by omega)
    rw [List.getD_eq_getElem?_getD, List.getElem?_eq_getElem (by omega)]
    exact this
  have HG2 := Lib.hid hg
  clear hc hl hT hR htb h31 hg hbx
  have hA : Below w.heap.size w (w.alloc (.cells #[.slice (some ⟨b, off, none⟩) l.length c] 108)) := (Below.refl _ _).alloc (Nat.le_refl _) _
  have HA := Lib.hid (And.intro hA (Boxed.new w 108 (.slice (some ⟨b, off, none⟩) l.length c)))
  have hmf : ∀ (w : World) (x : Value), (Instr.makeFunc (.func 46) #[x] #[]).run Tryz.prog w = .ok (.func (.func 46) #[x] #[]) w := fun w x => rfl
  refine (callsIn_wide (n := 3)).1 ?_
  have h1 : 1 ≤ 3 := by decide
  refine callsIn_of_wp_marks Tryz.func53 rfl trivial ?_ rfl
  simp only [Tryz.ntmps53, List.size_toArray, List.length_cons, List.length_nil, Nat.reduceAdd, Nat.reduceSub, Array.replicate_succ, Array.replicate_zero, List.push_toArray, List.append_toArray, List.nil_append, List.cons_append]
  clear hA
  gi_wp2_with fail
  refine ⟨trivial, ?_⟩
  gi_at_call 35
  refine (callsIn_wide.2 (HH.out _)).mono ?_
  rintro e w' ⟨rfl, rfl⟩
  have HRg := Lib.hid (fun k => take_rng HL.out hN k)
  have HFL := Lib.hid hfl
  have hbx0 := HA.out.2.cell
  clear HH hfl
  cases tb
  · have HGL : Hid (g < 4294967296) := Lib.hid (by simpa using HFL.out)
    gi_wp2_with fail
    have HS0 := Lib.hid (mo_start w (.slice (some ⟨b, off, none⟩) l.length c))
    clear hbx0 HA
    generalize ((w.alloc (.cells #[.slice (some ⟨b, off, none⟩) l.length c] 108)).alloc (.cells #[.int .i64 0] 2)) = W1 at *
    generalize hB : w.heap.size = B at *
    have HBE := Lib.hid hB
    clear hB
    gi_loopw [20] (fun i wr => ∃ k : Nat, i = .int .i64 k ∧ k ≤ l.length ∧ Hid (MoSt w B (.slice (some ⟨b, off, none⟩) l.length c) (l.take k).sum wr)) (fun i _ => l.length - (intOf i).toNat)
    case atStart => exact ⟨0, rfl, Nat.zero_le _, HS0⟩
    case round =>
      clear HS0
      obtain ⟨k, rfl, hk, HS⟩ := hrel
      have i0 : (0 : Int) ≤ (k : Int) := by omega
      by_cases hlt : k < l.length
      · have i1 : (k : Int) < (l.length : Int) := by omega
        obtain ⟨hb1, hb2, hb3⟩ := HS.out
        have c1 := (hb1.cell (p := ⟨b, off + k, none⟩) hb).trans (HC.out k hlt)
        have HE := Lib.hid (take_sum hlt)
        obtain ⟨y1, y2⟩ := HRg.out k
        obtain ⟨y3, y4⟩ := HRg.out (k + 1)
        rw [HE.out] at y3 y4
        unfold encZ at c1
        generalize l[k] = z at *
        have c2 := hb3.cell
        have f2 := hb3.frozen
        have HSn := Lib.hid (HS.out.put (z + (l.take k).sum))
        rw [show z + (l.take k).sum = (l.take k).sum + z by omega, ← HE.out] at HSn
        have HSk := Lib.hid (show l.take k = l.take k from rfl)
        have HEk := Lib.hid (show (l.take (k + 1)).sum = (l.take k).sum + z from HE.out)
        rw [HEk.out] at HSn
        clear HE HSk
        generalize (l.take k).sum = S at *
        have e1 : IntKind.i64.wrap (S + z) = S + z := IntWalk.i64_in _ (by omega)
        clear hb1 hb2 hb3
        gi_wp2
        go_roundw
        case rel => exact ⟨k + 1, by go_num, by omega, by rw [HEk.out]; exact HSn⟩
        case measure => (simp [intOf] <;> omega)
      · have hke : k = l.length := by omega
        subst hke
        have i1 : ¬ ((l.length : Nat) : Int) < (l.length : Int) := by omega
        rw [List.take_length] at HS
        obtain ⟨hb1, hb2, hb3⟩ := HS.out
        have hlen := grpN_len g
        have HGT : Hid (g < 2 ^ l.length) := Lib.hid (HG2.out)
        have HST := Lib.hid (sum_rng HL.out)
        have HBX2 := Lib.hid hb2
        have HBX3 := Lib.hid hb3
        have HBW := Lib.hid hb1
        have hlt3 : B + 1 < wr.heap.size := hb3.lt
        clear hb1 hb2 hb3 HS
        gi_wp2_with fail
        obtain ⟨T, hTT⟩ : ∃ T, l.sum = T := ⟨_, rfl⟩
        rw [hTT] at HST HBX3
        have HTE := Lib.hid hTT
        clear hTT
        refine range_bound h1 (gf := 46) (recv := #[.int .u32 (g : Int)]) rfl (enters_of Tryz.func46 (by kernel_rfl) rfl) encN (grpN g)
          (fun pre W => Boxed W (B + 1) 2 (.int .i64 (T - 2 * rowN l pre)) ∧ OnlyB wr (B + 1) W)
          (OwnFrom.and (Own.from (boxed_own (B + 1) 2 (fun pre => .int .i64 (T - 2 * rowN l pre))) _) (onlyB_own wr (B + 1)))
          ⟨by simpa [rowN] using HBX3.out, OnlyB.refl _ _⟩ ?hit
          (fun x => { tmps := #[.slice (some ⟨b, off, none⟩) l.length c, .int .u32 (g : Int), .int .i64 (v : Int), .pointer (some ⟨B, 0, none⟩), undef, undef, .int .i64 0, .pointer (some ⟨B + 1, 0, none⟩), undef, u9, .int .i64 (x : Int), .int .u32 (g : Int), .int .i64 (v : Int), .bool false, undef, undef, undef, undef, .slice (some ⟨b, off, none⟩) l.length c, .int .i64 (l.length : Int), .int .i64 (l.length : Int), .bool false, u22, u23, u24, u25, u26, u27, .int .u32 (g : Int), .func (.func 46) #[.int .u32 (g : Int)] #[], .int .i64 (x : Int), undef, undef, undef, undef, undef, undef, undef, undef], defers := [] }) ?assign ?body ?done
        case hit =>
          intro lp J W hJ hY h0
          exact each_in 2 (by decide) lp _ HGL.out J (fun ys V hj => tab_keep HT.out (by have := (hJ _ _ hj).2.big HBW.out (by omega) (by omega); rw [HBE.out]; exact this)) hY W h0
        case assign =>
          intro lp x W K hK
          gi_wp2
          exact hK
        case body =>
          rintro lp pre x rest W hx ⟨hbx, hon⟩
          have c7 := hbx.cell
          have f7 := hbx.frozen
          have c3 := hon.cell HBX2.out.cell (by simp)
          have hxm : x < l.length := grp_lt HGT.out (by rw [hx]; simp)
          have cx0 : wr.cell? ⟨b, off + x, none⟩ = some (encZ l[x]) := (HBW.out.cell (p := ⟨b, off + x, none⟩) hb).trans (HC.out x hxm)
          have cx := hon.cell cx0 (by simp; omega)
          have HR1 : Hid (rowN l (pre ++ [x]) = rowN l pre + l[x]) := Lib.hid (by rw [rowN_snoc, List.getD_eq_getElem?_getD, List.getElem?_eq_getElem hxm]; rfl)
          have hz := HL.out l[x] (List.getElem_mem hxm)
          have hR := rowN_rng HL.out pre
          have hp32 : pre.length ≤ 32 := by rw [hx] at hlen; simp at hlen; omega
          have hT := HST.out
          have hTb : 0 ≤ T ∧ T ≤ 72057594037927936 := by omega
          have hRb : 0 ≤ rowN l pre ∧ rowN l pre ≤ 72057594037927936 := by omega
          have i0 : (0 : Int) ≤ (x : Int) := by omega
          have i1 : (x : Int) < (l.length : Int) := by omega
          have hltB : B < W.heap.size := Nat.lt_of_lt_of_le (by omega) hon.size
          have hltb : b < W.heap.size := by have := hon.size; omega
          have hltX : B + 1 < W.heap.size := hbx.lt
          clear hx cx0 hT hR hp32
          unfold encZ at cx
          generalize l[x] = z at *
          generalize rowN l pre = R at *
          have e1 : IntKind.i64.wrap (2 * z) = 2 * z := IntWalk.i64_in _ (by omega)
          have e2 : IntKind.i64.wrap (T - 2 * R - 2 * z) = T - 2 * R - 2 * z := IntWalk.i64_in _ (by omega)
          have HE3 : Hid (T - 2 * R - 2 * z = T - 2 * (R + z)) := Lib.hid (by omega)
          have HX := Lib.hid hbx
          have HO1 := Lib.hid hon
          clear hbx hon
          generalize T - 2 * R = A at *
          gi_wp2_with fail
          gi_region
          all_goals gi_wp2
          all_goals refine ⟨KeepsFrom.of_grownBy (grown_drew (grownBy_setCell' W (B + 1) (.int .i64 (A - 2 * z)))) (fun j e => by cases e; exact hlt3), ?_, ?_⟩
          all_goals first
            | (rw [HR1.out, ← HE3.out]; exact HX.out.set _)
            | exact grown_drew (HO1.out.set (.int .i64 (A - 2 * z)))
        case done =>
          rintro D W hD ⟨hbx, hon⟩ hK
          have hc := hbx.cell
          gi_wp2
          refine ⟨by simp, .inl ⟨_, _, rfl, run_takeDeferred hK, ?_⟩⟩
          have hB2 : Below w.heap.size w W := by
            have := hon.big HBW.out (by omega) (by omega)
            rwa [← HBE.out] at this
          have hD2 : w.heap.size ≤ D := by rw [HBE.out]; omega
          refine ⟨_, results_tmp rfl _ _ _, ?_, hB2.trans (belowK_b (w := w) (Nat.le_refl _) W D _ _ hD2 hK rfl rfl)⟩
          rw [HTE.out]
          rfl
  · have HGL : Hid ((othG l.length g) < 4294967296) := Lib.hid (by simpa using HFL.out)
    gi_wp2_with (first | (gi_at_call 37; refine (callsIn_wide.2 (HO.out _)).mono ?_; rintro e w' ⟨rfl, rfl⟩) | (refine ⟨trivial, ?_⟩; gi_at_call 37; refine (callsIn_wide.2 (HO.out _)).mono ?_; rintro e w' ⟨rfl, rfl⟩))
    have HS0 := Lib.hid (mo_start w (.slice (some ⟨b, off, none⟩) l.length c))
    clear hbx0 HA
    generalize ((w.alloc (.cells #[.slice (some ⟨b, off, none⟩) l.length c] 108)).alloc (.cells #[.int .i64 0] 2)) = W1 at *
    generalize hB : w.heap.size = B at *
    have HBE := Lib.hid hB
    clear hB
    gi_loopw [20] (fun i wr => ∃ k : Nat, i = .int .i64 k ∧ k ≤ l.length ∧ Hid (MoSt w B (.slice (some ⟨b, off, none⟩) l.length c) (l.take k).sum wr)) (fun i _ => l.length - (intOf i).toNat)
    case atStart => exact ⟨0, rfl, Nat.zero_le _, HS0⟩
    case round =>
      clear HS0
      obtain ⟨k, rfl, hk, HS⟩ := hrel
      have i0 : (0 : Int) ≤ (k : Int) := by omega
      by_cases hlt : k < l.length
      · have i1 : (k : Int) < (l.length : Int) := by omega
        obtain ⟨hb1, hb2, hb3⟩ := HS.out
        have c1 := (hb1.cell (p := ⟨b, off + k, none⟩) hb).trans (HC.out k hlt)
        have HE := Lib.hid (take_sum hlt)
        obtain ⟨y1, y2⟩ := HRg.out k
        obtain ⟨y3, y4⟩ := HRg.out (k + 1)
        rw [HE.out] at y3 y4
        unfold encZ at c1
        generalize l[k] = z at *
        have c2 := hb3.cell
        have f2 := hb3.frozen
        have HSn := Lib.hid (HS.out.put (z + (l.take k).sum))
        rw [show z + (l.take k).sum = (l.take k).sum + z by omega, ← HE.out] at HSn
        have HSk := Lib.hid (show l.take k = l.take k from rfl)
        have HEk := Lib.hid (show (l.take (k + 1)).sum = (l.take k).sum + z from HE.out)
        rw [HEk.out] at HSn
        clear HE HSk
        generalize (l.take k).sum = S at *
        have e1 : IntKind.i64.wrap (S + z) = S + z := IntWalk.i64_in _ (by omega)
        clear hb1 hb2 hb3
        gi_wp2
        go_roundw
        case rel => exact ⟨k + 1, by go_num, by omega, by rw [HEk.out]; exact HSn⟩
        case measure => (simp [intOf] <;> omega)
      · have hke : k = l.length := by omega
        subst hke
        have i1 : ¬ ((l.length : Nat) : Int) < (l.length : Int) := by omega
        rw [List.take_length] at HS
        obtain ⟨hb1, hb2, hb3⟩ := HS.out
        have hlen := grpN_len (othG l.length g)
        have HGT : Hid ((othG l.length g) < 2 ^ l.length) := Lib.hid (oth_lt)
        have HST := Lib.hid (sum_rng HL.out)
        have HBX2 := Lib.hid hb2
        have HBX3 := Lib.hid hb3
        have HBW := Lib.hid hb1
        have hlt3 : B + 1 < wr.heap.size := hb3.lt
        clear hb1 hb2 hb3 HS
        gi_wp2_with fail
        obtain ⟨T, hTT⟩ : ∃ T, l.sum = T := ⟨_, rfl⟩
        rw [hTT] at HST HBX3
        have HTE := Lib.hid hTT
        clear hTT
        refine range_bound h1 (gf := 46) (recv := #[.int .u32 ((othG l.length g) : Int)]) rfl (enters_of Tryz.func46 (by kernel_rfl) rfl) encN (grpN (othG l.length g))
          (fun pre W => Boxed W (B + 1) 2 (.int .i64 (T - 2 * rowN l pre)) ∧ OnlyB wr (B + 1) W)
          (OwnFrom.and (Own.from (boxed_own (B + 1) 2 (fun pre => .int .i64 (T - 2 * rowN l pre))) _) (onlyB_own wr (B + 1)))
          ⟨by simpa [rowN] using HBX3.out, OnlyB.refl _ _⟩ ?hit
          (fun x => { tmps := #[.slice (some ⟨b, off, none⟩) l.length c, .int .u32 (othG l.length g : Int), .int .i64 (v : Int), .pointer (some ⟨B, 0, none⟩), undef, undef, .int .i64 0, .pointer (some ⟨B + 1, 0, none⟩), undef, u9, .int .i64 (x : Int), .int .u32 (g : Int), .int .i64 (v : Int), .bool true, .int .u32 (g : Int), .slice (some ⟨b, off, none⟩) l.length c, .int .i64 (l.length : Int), .int .u32 (othG l.length g : Int), .slice (some ⟨b, off, none⟩) l.length c, .int .i64 (l.length : Int), .int .i64 (l.length : Int), .bool false, u22, u23, u24, u25, u26, u27, .int .u32 (othG l.length g : Int), .func (.func 46) #[.int .u32 (othG l.length g : Int)] #[], .int .i64 (x : Int), undef, undef, undef, undef, undef, undef, undef, undef], defers := [] }) ?assign ?body ?done
        case hit =>
          intro lp J W hJ hY h0
          exact each_in 2 (by decide) lp _ HGL.out J (fun ys V hj => tab_keep HT.out (by have := (hJ _ _ hj).2.big HBW.out (by omega) (by omega); rw [HBE.out]; exact this)) hY W h0
        case assign =>
          intro lp x W K hK
          gi_wp2
          exact hK
        case body =>
          rintro lp pre x rest W hx ⟨hbx, hon⟩
          have c7 := hbx.cell
          have f7 := hbx.frozen
          have c3 := hon.cell HBX2.out.cell (by simp)
          have hxm : x < l.length := grp_lt HGT.out (by rw [hx]; simp)
          have cx0 : wr.cell? ⟨b, off + x, none⟩ = some (encZ l[x]) := (HBW.out.cell (p := ⟨b, off + x, none⟩) hb).trans (HC.out x hxm)
          have cx := hon.cell cx0 (by simp; omega)
          have HR1 : Hid (rowN l (pre ++ [x]) = rowN l pre + l[x]) := Lib.hid (by rw [rowN_snoc, List.getD_eq_getElem?_getD, List.getElem?_eq_getElem hxm]; rfl)
          have hz := HL.out l[x] (List.getElem_mem hxm)
          have hR := rowN_rng HL.out pre
          have hp32 : pre.length ≤ 32 := by rw [hx] at hlen; simp at hlen; omega
          have hT := HST.out
          have hTb : 0 ≤ T ∧ T ≤ 72057594037927936 := by omega
          have hRb : 0 ≤ rowN l pre ∧ rowN l pre ≤ 72057594037927936 := by omega
          have i0 : (0 : Int) ≤ (x : Int) := by omega
          have i1 : (x : Int) < (l.length : Int) := by omega
          have hltB : B < W.heap.size := Nat.lt_of_lt_of_le (by omega) hon.size
          have hltb : b < W.heap.size := by have := hon.size; omega
          have hltX : B + 1 < W.heap.size := hbx.lt
          clear hx cx0 hT hR hp32
          unfold encZ at cx
          generalize l[x] = z at *
          generalize rowN l pre = R at *
          have e1 : IntKind.i64.wrap (2 * z) = 2 * z := IntWalk.i64_in _ (by omega)
          have e2 : IntKind.i64.wrap (T - 2 * R - 2 * z) = T - 2 * R - 2 * z := IntWalk.i64_in _ (by omega)
          have HE3 : Hid (T - 2 * R - 2 * z = T - 2 * (R + z)) := Lib.hid (by omega)
          have HX := Lib.hid hbx
          have HO1 := Lib.hid hon
          clear hbx hon
          generalize T - 2 * R = A at *
          gi_wp2_with fail
          gi_region
          all_goals gi_wp2
          all_goals refine ⟨KeepsFrom.of_grownBy (grown_drew (grownBy_setCell' W (B + 1) (.int .i64 (A - 2 * z)))) (fun j e => by cases e; exact hlt3), ?_, ?_⟩
          all_goals first
            | (rw [HR1.out, ← HE3.out]; exact HX.out.set _)
            | exact grown_drew (HO1.out.set (.int .i64 (A - 2 * z)))
        case done =>
          rintro D W hD ⟨hbx, hon⟩ hK
          have hc := hbx.cell
          gi_wp2
          refine ⟨by simp, .inl ⟨_, _, rfl, run_takeDeferred hK, ?_⟩⟩
          have hB2 : Below w.heap.size w W := by
            have := hon.big HBW.out (by omega) (by omega)
            rwa [← HBE.out] at this
          have hD2 : w.heap.size ≤ D := by rw [HBE.out]; omega
          refine ⟨_, results_tmp rfl _ _ _, ?_, hB2.trans (belowK_b (w := w) (Nat.le_refl _) W D _ _ hD2 hK rfl rfl)⟩
          rw [HTE.out]
          rfl
theorem more_any (q : Option Addr) (c : Nat) (l : List Int) (g v : Nat) (hN : l.length ≤ 31) (hg : g < 2 ^ l.length) (hv : v < l.length) (hl : Fits l) (w : World) (hT : Tab w) (hR : ReadsL encZ w.heap.size w q l) :
    Calls Tryz.prog 53 #[.slice q l.length c, .int .u32 (g : Int), .int .i64 (v : Int)] w fun e w' => e = .returned (.int .i64 (l.sum - 2 * rowN l (grpN (facG l.length g v)))) ∧ Below w.heap.size w w' :=
  more_fac q c l g v hN hg hv hl w hT hR _ rfl
end Go.Proofs.YtceejjgmepaonaaGreatDoor.Bg
/- A map keyed by pairs that the call makes: what it tells, beside the list of merged edges that it stands for. -/
namespace Go.Proofs.YtceejjgmepaonaaGreatDoor
open Go.RowKit Go.ChangeShapes Go.Maps Go.WideMaps EdPure NumPure
/-- A pair, as an array. -/
def encP (p : Int × Int) : Value := .agg #[.int .i64 p.1, .int .i64 p.2]
theorem arrP : ArrKey Tryz.prog 92 3 2 := ⟨Tryz.underlying92, by kernel_rfl, by kernel_rfl, by kernel_rfl⟩
theorem lawP : Keyed Tryz.prog 92 := Keyed.of_law arrP.law
theorem typesP : ∃ m, Tryz.prog.types.size = m + 1 := ⟨Tryz.prog.types.size - 1, by kernel_rfl⟩
/-- What a pair reads as. -/
def kP (u v : Int) : Lit := .string (keyBytes [.int .i64 u, .int .i64 v])
theorem keyP {u v : Int} (hu : In u) (hv : In v) : keyOf Tryz.prog 92 (encP (u, v)) = some (kP u v) :=
  keyOf_pair arrP Tryz.underlying3 typesP (WalkArith.wf_i64 (by unfold In at hu; omega)) (WalkArith.wf_i64 (by unfold In at hv; omega))
theorem kP_key {u v : Int} (hu : In u) (hv : In v) : WideAt.IsKeyLit (kP u v) := lawP.key (keyP hu hv)
theorem kP_inj {u v u' v' : Int} (hu : In u) (hv : In v) (hu' : In u') (hv' : In v') (h : kP u v = kP u' v') : u = u' ∧ v = v' := by
  have := lawP.inj (keyP hu hv) (by rw [h]; exact keyP hu' hv')
  unfold encP at this
  simp only [Value.agg.injEq, Array.mk.injEq, List.cons.injEq, Value.int.injEq, true_and, and_true] at this
  exact this
theorem kP_ne {u v u' v' : Int} (hu : In u) (hv : In v) (hu' : In u') (hv' : In v') (h : ¬ (u = u' ∧ v = v')) : kP u v ≠ kP u' v' := fun e => h (kP_inj hu hv hu' hv' e)
set_option maxRecDepth 20000 in
theorem keyP_inv {v : Value} {kl : Lit} (h : keyOf Tryz.prog 92 v = some kl) : ∃ a b : Int, v = encP (a, b) ∧ In a ∧ In b ∧ kl = kP a b := by
  have h0 := h
  obtain ⟨m, hm⟩ := typesP
  unfold keyOf at h
  simp only [Tryz.underlying92] at h
  split at h
  · rename_i hc
    rw [Bool.and_eq_true] at hc
    have hf := hc.2
    cases v with
    | agg cs =>
      have hs : cs.size = 2 := by simpa [Value.formed, Tryz.underlying92, arrP.size] using hf
      obtain ⟨l⟩ := cs
      match l, hs with
      | [c0, c1], _ =>
        rw [Option.map_eq_some_iff] at h
        obtain ⟨ls, h1, -⟩ := h
        rw [hm] at h1
        unfold Program.keyLits at h1
        simp only [Tryz.underlying92, Value.cells] at h1
        rw [if_pos (by rw [arrP.size]; rfl), show List.range 2 = [0, 1] from rfl, List.mapM_cons, List.mapM_cons, List.mapM_nil] at h1
        simp only [bind, Option.bind_eq_some_iff, pure, Option.some.injEq, arrP.one, Option.map_eq_some_iff] at h1
        obtain ⟨xs, ⟨y0, g0, _, ⟨y1, g1, _, rfl, rfl⟩, rfl⟩, -⟩ := h1
        have one : ∀ {c : Value} {y : List Lit}, Tryz.prog.keyLits (m + 1) 3 [c] = some y → ∃ n, c = .int .i64 n ∧ (Lit.int .i64 n).wf = true := by
          intro c y hy
          unfold Program.keyLits at hy
          simp only [Tryz.underlying3] at hy
          cases c <;> simp at hy
          obtain ⟨⟨rfl, hw⟩, -⟩ := hy
          exact ⟨_, rfl, hw⟩
        have o0 : ∃ n, c0 = .int .i64 n ∧ (Lit.int .i64 n).wf = true := one (y := y0) (by simpa using g0)
        have o1 : ∃ n, c1 = .int .i64 n ∧ (Lit.int .i64 n).wf = true := one (y := y1) (by simpa using g1)
        obtain ⟨a, rfl, wa⟩ := o0
        obtain ⟨b, rfl, wb⟩ := o1
        have ia : In a := bounds_i64 wa
        have ib : In b := bounds_i64 wb
        exact ⟨a, b, rfl, ia, ib, Option.some.inj (h0.symm.trans (keyP ia ib))⟩
    | _ => simp [Value.formed, Tryz.underlying92] at hf
  · cases h
def dI (z : Int) : DataW Unit := .lit (.int .i64 z)
/-- What the map tells: of each pair whether it is there, and what it weighs. -/
def MapIs (M : List Ed) (D : DataW Unit) : Prop :=
  Tidy D ∧ (∀ u v, In u → In v → has D (kP u v) = hasM M u v) ∧ (∀ u v, In u → In v → D.atKey (kP u v) (dI 0) = dI (wOf M u v)) ∧ size D = M.length
theorem MapIs.empty : MapIs [] (.map []) := ⟨tidy_empty, fun _ _ _ _ => rfl, fun _ _ _ _ => rfl, rfl⟩
theorem MapIs.add {M M' : List Ed} {D : DataW Unit} (h : MapIs M D) (hM : M.Pairwise lt2) {e : Ed} (hu : In e.1) (hv : In e.2.1) (ha : addL M e = some M') : MapIs M' (D.put (kP e.1 e.2.1) (dI (wOf M e.1 e.2.1 + e.2.2))) := by
  obtain ⟨h1, h2, h3, h4⟩ := h
  obtain ⟨a1, a2, -, -, a5⟩ := add_some hM ha
  have hk := kP_key hu hv
  refine ⟨h1.put hk _, fun u v iu iv => ?_, fun u v iu iv => ?_, ?_⟩
  · rw [a1]
    by_cases hx : isAt u v e
    · obtain ⟨x1, x2⟩ := hx
      subst x1 x2
      rw [has_put_same h1.isMap hk, decide_eq_true (p := isAt e.1 e.2.1 e) ⟨rfl, rfl⟩, Bool.or_true]
    · rw [has_put_other (kP_ne iu iv hu hv (fun e2 => hx ⟨e2.1.symm, e2.2.symm⟩)), h2 u v iu iv, decide_eq_false hx, Bool.or_false]
  · rw [a2]
    by_cases hx : isAt u v e
    · rw [if_pos hx]
      obtain ⟨x1, x2⟩ := hx
      subst x1 x2
      rw [atKey_put_same h1.isMap hk]
    · rw [atKey_put_other (kP_ne iu iv hu hv (fun e2 => hx ⟨e2.1.symm, e2.2.symm⟩)), if_neg hx, h3 u v iu iv]
  · rw [size_put h1, h2 _ _ hu hv, h4, a5]
theorem map_addP {M M' : List Ed} {D : DataW Unit} (h : MapIs M D) (hM : M.Pairwise lt2) {p q y : Int} (hu : In p) (hv : In q) (ha : addL M (p, q, y) = some M') {z : Int} (hz : wOf M p q = z) : MapIs M' (D.put (kP p q) (dI (z + y))) := by
  have := MapIs.add (e := (p, q, y)) h hM hu hv ha
  rw [← hz]
  exact this
def OwnsD (w : World) (m k : Nat) (D : DataW Unit) : Prop := w.ownsMap Tryz.prog 92 (plainElem (H := Unit) Tryz.prog 2) m k D
theorem map_tight {w : World} {m k : Nat} {D : DataW Unit} (h : OwnsD w m k D) : OwnsD w m (size D) D := by
  obtain ⟨es, clock, hb, F, _, rfl⟩ := h
  exact ⟨es, clock, hb, F, by simp [Maps.size, length_sorted], rfl⟩
theorem map_over {w w' : World} {m k : Nat} {D : DataW Unit} (h : OwnsD w m k D) (e : w'.heap[m]? = w.heap[m]?) : OwnsD w' m k D := by
  obtain ⟨es, clock, hb, r⟩ := h
  exact ⟨es, clock, e.trans hb, r⟩
theorem map_on {w w' : World} {m k : Nat} {D : DataW Unit} (h : OwnsD w m k D) (hb : Below w.heap.size w w') : OwnsD w' m k D := map_over h (hb.block m h.lt)
theorem zero64 (w : World) : (zeroValue 2).run Tryz.prog w = .ok (.int .i64 0) w := by kernel_rfl
set_option maxRecDepth 20000 in
/-- What a look-up tells. -/
theorem look_any {w : World} {m k : Nat} {M : List Ed} {D : DataW Unit} (h : OwnsD w m k D) (hD : MapIs M D) {u v : Int} (hu : In u) (hv : In v) :
    (Instr.lookup 89 (.map (some m)) (.agg #[.int .i64 u, .int .i64 v]) false).run Tryz.prog w = .ok (.int .i64 (wOf M u v)) w := by
  obtain ⟨c, hrun, hat, -⟩ := h.lookup_int lawP Tryz.underlying89 Tryz.underlying2 (zero64 w) (keyP hu hv)
  have := hat.symm.trans (hD.2.2.1 u v hu hv)
  unfold dI at this
  injection this with e
  injection e with _ e
  unfold encP at hrun
  rw [hrun, e]
end Go.Proofs.YtceejjgmepaonaaGreatDoor
