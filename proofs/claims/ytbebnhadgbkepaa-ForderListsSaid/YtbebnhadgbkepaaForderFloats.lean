/- A list of words as floats, one after another. -/
import Derived.Test.YtbebnhadgbkepaaForderCount
import Derived.OwnWalk
import Derived.Laws.AppendOwnNone
namespace Go.Proofs.Ytbebnhadgbkepaa
open Go.RowKit FbitPure ForderPure
open Go.Sort hiding Below
theorem owns_mono {w : World} {B B' : Nat} {e : TypeId} {size n : Nat} {v : Value} {xs : List Value} (h : w.ownsRow B e size v n xs) (hB : B' ≤ B) : w.ownsRow B' e size v n xs := by
  obtain ⟨h1, h2 | ⟨g, cap, cur, h2, h3, h4⟩⟩ := h
  · exact ⟨h1, Or.inl h2⟩
  · exact ⟨h1, Or.inr ⟨g, cap, cur, h2, Nat.le_trans hB h3, h4⟩⟩
/-- A slice of the call's own, and what it reads. -/
theorem owns_reads {w : World} {B : Nat} {e : TypeId} {v : Value} {l : List Nat} {enc : Nat → Value} (h : w.ownsRow B e 1 v l.length (l.map enc)) :
    ∃ p cap, v = .slice p l.length cap ∧ ReadsE enc w.heap.size w p l ∧ l.length ≤ cap ∧ (p = none → l = [] ∧ cap = 0) ∧ (∀ q, p = some q → ∃ g, q = ⟨g, 0, none⟩ ∧ B ≤ g ∧ g < w.heap.size) := by
  have hc := fun g (hg : v.ownBlock = some g) => h.cells hg
  have hlt := h.lt
  obtain ⟨h1, ⟨rfl, h2⟩ | ⟨g, cap, cur, rfl, h3, h4, h5, h6, h7, h8⟩⟩ := h
  · have : l = [] := List.length_eq_zero_iff.1 h2
    subst this
    exact ⟨none, 0, rfl, Or.inl rfl, Nat.zero_le _, fun _ => ⟨rfl, rfl⟩, fun q hq => by cases hq⟩
  · refine ⟨some ⟨g, 0, none⟩, cap, rfl, Or.inr ⟨g, 0, rfl, (hlt g rfl).2, fun i hi => ?_⟩, h5, ⟨fun hq => by simp at hq, fun q hq => ⟨g, (Option.some.inj hq).symm, h3, (hlt g rfl).2⟩⟩⟩
    have := hc g rfl i (enc (l.getD i 0)) (by simp [List.getD_eq_getElem?_getD, hi])
    rwa [addr_add] at this
/-- At the head of a round: the first k are gathered in v. -/
def FloatRel (w0 : World) (l : List Nat) (k : Nat) (v : Value) (w : World) : Prop := Below w0.heap.size w0 w ∧ w.ownsRow w0.heap.size 23 1 v k ((l.take k).map encF)
theorem info_float : (Try.prog.info? 23).map (fun i => (i.zero, i.size, i.bytes)) = some (some (.float .f64 0), 1, 8) := by kernel_rfl
theorem info_u64 : (Try.prog.info? 22).map (fun i => (i.zero, i.size, i.bytes)) = some (some (.int .u64 0), 1, 8) := by kernel_rfl
theorem one_news {w : World} {u : Value} {T : TypeId} : ∀ j x, [u][j]? = some x → (w.alloc (.cells #[u] T)).cell? ((⟨w.heap.size, 0, none⟩ : Addr).add j) = some x := by
  intro j x hj
  match j, hj with
  | 0, hj => simp at hj; subst hj; simp [Addr.add]
theorem FloatRel.step {w0 w w' : World} {l : List Nat} {k : Nat} {v v' : Value} {o : Obj} (h : FloatRel w0 l k v w) (hk : k < l.length) (h1 : w'.ownsRow w0.heap.size 23 1 v' (k + 1) ((l.take k).map encF ++ [encF (l.getD k 0)])) (hg : (w.alloc o).grownBy w' v.ownBlock) :
    FloatRel w0 l (k + 1) v' w' := by
  have e : l.take (k + 1) = l.take k ++ [l.getD k 0] := by
    rw [List.take_add_one, List.getElem?_eq_getElem hk]
    simp [List.getD_eq_getElem?_getD, hk]
  refine ⟨(h.1.alloc h.1.size o).grown hg (h.1.alloc h.1.size o).size fun j hj => (h.2.lt j hj).1, ?_⟩
  rw [e, List.map_append]
  exact h1
set_option maxHeartbeats 1000000 in
theorem floats_any (a : Option Addr) (cap : Nat) (l : List Nat) (w : World) (hr : Wide l) (hl : ReadsE encU w.heap.size w a l) (hlen : l.length ≤ 1000) :
    Calls Try.prog 11 #[.slice a l.length cap] w fun e w' => ∃ p cap', e = .returned (.slice p l.length cap') ∧ Below w.heap.size w w' ∧ ReadsE encF w'.heap.size w' p l := by
  have HL := Lib.hid hl
  clear hr hl
  obtain ⟨i0, hi, hz0, hz1, hz2⟩ := info_parts info_float
  have HS : Hid (FloatRel w l 0 (.slice none 0 0) w) := ⟨Below.refl _ _, World.ownsRow_nil _ _ _ _⟩
  go_enter Try.func11, Try.ntmps11
  go_wp2
  go_loopw [3, 4] (fun v i wr => ∃ k : Nat, i = .int .i64 k ∧ k ≤ l.length ∧ Hid (FloatRel w l k v wr)) (fun _ i _ => l.length - (intOf i).toNat)
  case atStart => exact ⟨0, rfl, Nat.zero_le _, HS⟩
  case round =>
    obtain ⟨k, rfl, hk, HK⟩ := hrel
    by_cases hlt : k < l.length
    · obtain ⟨b, off, ha, hbN, hck⟩ := (HL.out.on HK.out.1).at hlt
      subst ha
      unfold encU at hck
      have hsz := HK.out.1.size
      have HST := Lib.hid (fun (v' : Value) (w' : World) (h1 : w'.ownsRow w.heap.size 23 1 v' (k + 1) ((l.take k).map encF ++ [encF (l.getD k 0)])) h2 => HK.out.step (o := .cells #[.float .f64 (l.getD k 0)] 23) hlt h1 h2)
      generalize l.getD k 0 = n at *
      go_wp2_with (first
        | (go_at_call 6; refine (of_any _ _).mono ?_; rintro e w' ⟨rfl, rfl⟩)
        | (at_builtin; refine wpList_append_own _ rfl _ _ 31 rfl w.heap.size 23 i0 (.float .f64 0) 1 8 Try.underlying31 hi hz0 hz1 hz2 rfl (by decide) _ _ _ rfl (HK.out.2.alloc _) ⟨wr.heap.size, 0, none⟩ 1 1 [.float .f64 n] rfl rfl one_news (by intro u hu; simp at hu; subst hu; rfl) (by unfold maxLen; omega) (by omega) (by simp; omega) ?_))
      intro v' w1 hown hgrow _
      rw [← List.map_take] at hown
      have HN := Lib.hid (HST.out v' w1 hown hgrow)
      clear hown hgrow
      go_wp2
      go_roundw
      case rel => exact ⟨k + 1, by go_num, hlt, HN⟩
      case measure => (simp [intOf] <;> omega)
    · have hke : k = l.length := by omega
      subst hke
      go_wp2
      go_ret
      have h2 := HK.out.2
      rw [List.take_length] at h2
      obtain ⟨p, cap', rfl, h3, -⟩ := owns_reads h2
      exact ⟨p, cap', rfl, HK.out.1, h3⟩
end Go.Proofs.Ytbebnhadgbkepaa
