/- The document's Total, Same, Cmp. -/
import Derived.Test.YtibjpoadpciiaaaEdRef1
namespace Go.Proofs.Ytibjpoadpciiaaa
open Go.RowKit Go.ChangeShapes EdPure NumPure
theorem reads_of {w : World} {a : Option Addr} {l : List Int} (h : ReadsL (encInt .i64) w.heap.size w a l) : Reads w.heap.size w a l := by
  rcases h with h | ⟨b, off, h1, h2, h3⟩
  · exact Or.inl h
  · refine Or.inr ⟨b, off, h1, h2, fun i hi => ?_⟩
    rw [h3 i hi]
    unfold encInt
    simp [List.getD_eq_getElem?_getD, List.getElem?_eq_getElem hi]
theorem wts_rng {l : List Ed} (h : InL l) : Rng (wts l) := by
  intro i hi
  rw [wts_len] at hi
  rw [wts_at hi]
  exact (h.at hi).2.2
theorem wts_take {l : List Ed} {k : Nat} (hk : k < l.length) : wts (l.take (k + 1)) = wts (l.take k) ++ [l[k].2.2] := by
  rw [List.take_succ_eq_append_getElem hk]; unfold wts; rw [List.map_append]; rfl
theorem info_int64 : ∃ i, (Try.prog.info? 2) = some i ∧ i.zero = some (.int .i64 0) ∧ i.size = 1 ∧ i.bytes = 8 := info_of (by kernel_rfl)
def RTotRel (w0 : World) (l : List Ed) (k : Nat) (v : Value) (wr : World) : Prop := k ≤ l.length ∧ GrowRel (encInt .i64) 2 w0 (wts (l.take k)) v wr
@[go_sem] theorem eq_edge (a b c a' b' c' : Int) (w : World) : (Op.equalIn 10000 35 (.agg #[.int .i64 a, .int .i64 b, .int .i64 c]) (.agg #[.int .i64 a', .int .i64 b', .int .i64 c'])).run Try.prog w = .ok (a == a' && (b == b' && c == c')) w := by
  have u3 := Try.underlying3
  have a3 := Try.isAgg3
  have z3 := Try.sizeOf3
  have u2 := Try.underlying2
  have a2 := Try.isAgg2
  have z2 := Try.sizeOf2
  have hS : Try.prog.underlying 35 = some (.struct (Try.prog.fieldsOf 35)) := by kernel_rfl
  have hp : Try.prog.stoodInHeld 35 = false := by kernel_rfl
  rw [show (10000 : Nat) = 9999 + 1 from rfl, run_equalIn_agg w 9999 35 _ _ hS hp]
  simp only [Program.fieldsOf, Try.underlying35]
  go_simp
  by_cases h1 : a = a' <;> by_cases h2 : b = b' <;> by_cases h3 : c = c' <;> simp [h1, h2, h3]
def SameRel (w : World) (l m : List Ed) (k : Nat) (wr : World) : Prop := k ≤ l.length ∧ Below w.heap.size w wr ∧ ∀ j (h1 : j < l.length) (h2 : j < m.length), j < k → l[j] = m[j]
theorem same_any (a b : Option Addr) (c d : Nat) (l m : List Ed) (hl : l.length ≤ 1048576) (_hm : m.length ≤ 1048576) (w : World) (hR : ReadsE w.heap.size w a l) (hS : ReadsE w.heap.size w b m) :
    Calls Try.prog 12 #[.slice a l.length c, .slice b m.length d] w fun e w' => e = .returned (.bool (decide (l = m))) ∧ Below w.heap.size w w' := by
  have HR := Lib.hid hR
  have HS := Lib.hid hS
  clear hR hS
  by_cases hlen : l.length = m.length
  · have HL := Lib.hid hlen
    rw [← hlen]
    clear hlen
    go_enter Try.func12, Try.ntmps12
    go_wp2
    go_loopw [5] (fun i wr => ∃ k : Nat, i = .int .i64 k ∧ Hid (SameRel w l m k wr)) (fun i _ => l.length - (intOf i).toNat)
    case atStart => exact ⟨0, rfl, Lib.hid ⟨Nat.zero_le _, Below.refl _ _, fun j _ _ h => by omega⟩⟩
    case round =>
      obtain ⟨k, rfl, HK⟩ := hrel
      have i0 : (0 : Int) ≤ (k : Int) := by omega
      by_cases hlt : k < l.length
      · have i1 : (k : Int) < (l.length : Int) := by omega
        have hlt2 : k < m.length := by have := HL.out; omega
        obtain ⟨u, v, x, he⟩ : ∃ u v x, l[k] = (u, v, x) := ⟨_, _, _, rfl⟩
        obtain ⟨u', v', x', he'⟩ : ∃ u v x, m[k] = (u, v, x) := ⟨_, _, _, rfl⟩
        obtain ⟨p, off, rfl, hbw, hbr, c0, c1, c2⟩ := HR.out.cells hlt HK.out.2.1 he
        obtain ⟨p', off', rfl, hbw', hbr', d0, d1, d2⟩ := HS.out.cells hlt2 HK.out.2.1 he'
        have HE := Lib.hid (And.intro he he')
        clear he he'
        by_cases hq : (u, v, x) = (u', v', x')
        · simp only [Prod.mk.injEq] at hq
          obtain ⟨rfl, rfl, rfl⟩ := hq
          go_wp2
          go_quiet (fail)
          go_wp2
          go_roundw
          case rel => exact ⟨k + 1, by go_num, Lib.hid ⟨hlt, below_drewN HK.out.2.1 _, fun j h1 h2 hjk => by
            by_cases e : j = k
            · subst e; rw [HE.out.1, HE.out.2]
            · exact HK.out.2.2 j h1 h2 (by omega)⟩⟩
          case measure => (simp [intOf]; omega)
        · have HX : Hid (decide (l = m) = false) := Lib.hid (decide_eq_false fun e => hq (by rw [← HE.out.1, ← HE.out.2]; simp [e]))
          by_cases e1 : u = u'
          · subst e1
            by_cases e2 : v = v'
            · subst e2
              have t : (x == x') = false := by
                have : ¬ x = x' := fun e => hq (by rw [e])
                simpa using this
              clear hq
              go_wp2
              go_quiet (fail)
              go_wp2
              go_ret
              exact ⟨bool_ret HX.out.symm, below_drewN HK.out.2.1 _⟩
            · have t : (v == v') = false := by simpa using e2
              clear hq e2
              go_wp2
              go_quiet (fail)
              go_wp2
              go_ret
              exact ⟨bool_ret HX.out.symm, below_drewN HK.out.2.1 _⟩
          · have t : (u == u') = false := by simpa using e1
            clear hq e1
            go_wp2
            go_quiet (fail)
            go_wp2
            go_ret
            exact ⟨bool_ret HX.out.symm, below_drewN HK.out.2.1 _⟩
      · have hk : k = l.length := by have := HK.out.1; omega
        subst hk
        have HX : Hid (decide (l = m) = true) := Lib.hid (decide_eq_true (List.ext_getElem HL.out fun j h1 h2 => HK.out.2.2 j h1 h2 h1))
        go_wp2
        go_ret
        exact ⟨bool_ret HX.out.symm, HK.out.2.1⟩
  · have HX : Hid (decide (l = m) = false) := Lib.hid (decide_eq_false fun e => hlen (by rw [e]))
    have t : ((l.length : Int) != (m.length : Int)) = true := by simp; omega
    clear hlen
    go_enter Try.func12, Try.ntmps12
    go_wp2
    go_ret
    exact ⟨bool_ret HX.out.symm, Below.refl _ _⟩
end Go.Proofs.Ytibjpoadpciiaaa
