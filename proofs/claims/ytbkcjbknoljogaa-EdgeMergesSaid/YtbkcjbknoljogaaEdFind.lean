/- Contracts of Find (the library's IndexFunc by the shelf, its closure) and Total and Checks. -/
import Derived.Test.YtbkcjbknoljogaaEdCode
import Derived.Test.YtbkcjbknoljogaaNumAdd
import Derived.Shelf.Abstract
import Derived.Laws.StructEq
import Derived.Laws.Cover2
namespace Go.Proofs.Ytbkcjbknoljogaa
open Go.RowKit Go.ChangeShapes EdPure NumPure
@[go_sem] theorem eq_pair (a b c d : Int) (w : World) : (Op.equalIn 10000 58 (.agg #[.int .i64 a, .int .i64 b]) (.agg #[.int .i64 c, .int .i64 d])).run Try.prog w = .ok (a == c && b == d) w := by
  have u3 := Try.underlying3
  have a3 := Try.isAgg3
  have z3 := Try.sizeOf3
  rw [show (10000 : Nat) = 9999 + 1 from rfl, Op.equalIn]
  simp only [Sem.run_bind, run_underlying Try.underlying58, Result.andThen_ok]
  simp only [Std.Legacy.Range.forIn_eq_forIn_range', Std.Legacy.Range.size, Nat.sub_zero, Nat.add_sub_cancel, Nat.div_one, List.range'_succ, List.range'_zero, List.forIn_cons, List.forIn_nil]
  go_simp
  by_cases h1 : a = c <;> by_cases h2 : b = d <;> simp [h1, h2]
set_option maxRecDepth 100000 in
theorem found_any (K : Nat) (p : Int × Int) (e : Ed) (w : World) (h0 : w.cell? ⟨K, 0, none⟩ = some (.int .i64 p.1)) (h1 : w.cell? ⟨K, 1, none⟩ = some (.int .i64 p.2)) :
    Calls Try.prog 32 #[encE e, .pointer (some ⟨K, 0, none⟩)] w fun r w' => r = .returned (.bool (decide (endsE e = p))) ∧ Below w.heap.size w w' := by
  have HN := Lib.hid (fun W => ends_any e W)
  have hK : K < w.heap.size := World.block_lt_of_cell? w _ h0
  obtain ⟨c, d⟩ := p
  obtain ⟨u, v, x⟩ := e
  unfold encP at HN
  unfold encE at HN ⊢
  generalize endsE (u, v, x) = q at *
  obtain ⟨a, b⟩ := q
  simp only at *
  have HD : Hid (decide ((a, b) = (c, d)) = (a == c && b == d)) := Lib.hid (by
    by_cases e1 : a = c <;> by_cases e2 : b = d <;> simp [e1, e2])
  go_enter Try.func32, Try.ntmps32
  go_wp2
  have hs : K ≠ w.heap.size := by omega
  have HB : Hid (Below w.heap.size w ((w.alloc (.cells #[.int .i64 u, .int .i64 v, .int .i64 x] 24)).drewN 1)) := Lib.hid (below_drewN ((Below.refl _ _).alloc (Nat.le_refl _) _) 1)
  go_region_with (first
    | (go_at_call 30; refine (HN.out _).mono ?_; rintro r w1 ⟨rfl, hb⟩; have H1 := Lib.hid hb; have k0 := (hb.cell (p := ⟨K, 0, none⟩) (by simp; omega)); have k1 := (hb.cell (p := ⟨K, 1, none⟩) (by simp; omega)); clear hb))
  all_goals go_wp2
  all_goals go_ret
  all_goals exact ⟨bool_ret HD.out.symm, HB.out.trans (H1.out.mono HB.out.size)⟩
theorem hmf : ∀ (fn : Fn) (first cap : Array Value) (w : World), (Instr.makeFunc fn first cap).run Try.prog w = .ok (.func fn first cap) w := fun _ _ _ _ => rfl
theorem indexF_none (a : Option Addr) (c : Nat) (fv : Value) (w : World) :
    Calls Try.prog 31 #[.slice a 0 c, fv] w fun e w' => e = .returned (.int .i64 (-1)) ∧ w' = w := by
  go_enter Try.func31, Try.ntmps31
  go_wp2
  go_loopw [8] (fun i wr => i = .int .i64 0 ∧ wr = w) (fun _ _ => 0)
  case atStart => exact ⟨rfl, rfl⟩
  case round =>
    obtain ⟨rfl, rfl⟩ := hrel
    go_wp2
    go_ret
    exact ⟨rfl, rfl⟩
theorem getElem!_lt {l : List Ed} {j : Nat} (hj : j < l.length) : l[j]! = l[j] := getElem!_pos l j hj
theorem indexF_any (K : Nat) (p : Int × Int) (a : Option Addr) (c : Nat) (l : List Ed) (hl : l.length ≤ 1048576) (w : World) (h0 : w.cell? ⟨K, 0, none⟩ = some (.int .i64 p.1)) (h1 : w.cell? ⟨K, 1, none⟩ = some (.int .i64 p.2)) (hR : ReadsE w.heap.size w a l) :
    Calls Try.prog 31 #[.slice a l.length c, .func (.func 32) #[] #[.pointer (some ⟨K, 0, none⟩)]] w fun e w' => e = .returned (.int .i64 (Lib.idxBy (fun _ y => decide (endsE y = p)) l default)) ∧ Below w.heap.size w w' := by
  rcases hR with rfl | ⟨b, off, rfl, hb, hc⟩
  · refine (indexF_none a c _ w).mono ?_
    rintro e w' ⟨rfl, rfl⟩
    exact ⟨rfl, Below.refl _ _⟩
  have hK : K < w.heap.size := World.block_lt_of_cell? w _ h0
  have hp : PredBelow Try.prog 32 #[.pointer (some ⟨K, 0, none⟩)] (fun x => .agg (cellE x).toArray) (fun e => decide (endsE e = p)) w := by
    intro W x hB
    refine (found_any K p x W ((hB.cell (p := ⟨K, 0, none⟩) hK).trans h0) ((hB.cell (p := ⟨K, 1, none⟩) hK).trans h1)).mono ?_
    rintro e w' ⟨rfl, hb'⟩
    exact ⟨rfl, hB.trans (hb'.mono hB.size)⟩
  have h := AnyQ.slices_IndexFunc Try.laysIndexF 3 (fun w => Try.isAgg24 w) (fun w => Try.sizeOf24 w) cellE (fun _ => rfl) (fun e => decide (endsE e = p)) 32 #[.pointer (some ⟨K, 0, none⟩)]
    (enters_of Try.func32 (by kernel_rfl) rfl) b off l.length c l w hp (Nat.le_refl _) (by omega) hb (by
      intro j hj i v hv
      rw [getElem!_lt hj] at hv
      obtain ⟨c0, c1, c2⟩ := hc j hj
      match i, hv with
      | 0, hv => simp [cellE] at hv; subst hv; exact c0
      | 1, hv => simp [cellE] at hv; subst hv; exact c1
      | 2, hv => simp [cellE] at hv; subst hv; exact c2)
  rw [List.take_length] at h
  exact h
theorem find_any (a : Option Addr) (c : Nat) (l : List Ed) (hl : l.length ≤ 1048576) (u v : Int) (w : World) (hR : ReadsE w.heap.size w a l) :
    Calls Try.prog 16 #[.slice a l.length c, .int .i64 u, .int .i64 v] w fun e w' => e = .returned (.int .i64 (findE l u v)) ∧ Below w.heap.size w w' := by
  have hmf' := hmf
  have HN := Lib.hid (fun W => ends_any (u, v, 0) W)
  have HF : Hid (findE l u v = Lib.idxBy (fun _ y => decide (endsE y = endsE (u, v, 0))) l default) := Lib.hid (by
    unfold findE
    have : (fun (_ : Ed) (y : Ed) => btwB u v y) = (fun (_ : Ed) (y : Ed) => decide (endsE y = endsE (u, v, 0))) := by
      funext x y
      have := ends_eq u v 0 y
      cases h : btwB u v y
      · rw [h] at this; exact (decide_eq_false (fun h2 => by cases this.1 h2)).symm
      · rw [h] at this; exact (decide_eq_true (this.2 rfl)).symm
    rw [this])
  unfold encE encP at HN
  generalize endsE (u, v, 0) = p at *
  obtain ⟨q, r⟩ := p
  have HR := Lib.hid hR
  clear hR
  go_enter Try.func16, Try.ntmps16
  go_wp2_with fail
  refine (HN.out _).mono ?_
  rintro e w1 ⟨rfl, hb⟩
  obtain ⟨w2, hw2⟩ : ∃ w2, w1.alloc (.cells #[.int .i64 q, .int .i64 r] 58) = w2 := ⟨_, rfl⟩
  have c0 : w2.cell? ⟨w1.heap.size, 0, none⟩ = some (.int .i64 q) := by rw [← hw2]; simp
  have c1 : w2.cell? ⟨w1.heap.size, 1, none⟩ = some (.int .i64 r) := by rw [← hw2]; simp
  have hb2 : Below w.heap.size w w2 := by rw [← hw2]; exact hb.alloc hb.size _
  have HI := Lib.hid (indexF_any w1.heap.size (q, r) a c l hl w2 c0 c1 (HR.out.over hb2 (Nat.le_refl _)))
  have HB := Lib.hid hb2
  clear hb hb2 c0 c1
  go_wp2_with fail
  refine HI.out.mono ?_
  rintro e w3 ⟨rfl, hb3⟩
  go_wp2
  go_ret
  exact ⟨ret_i HF.out.symm, HB.out.trans (hb3.mono HB.out.size)⟩
end Go.Proofs.Ytbkcjbknoljogaa
