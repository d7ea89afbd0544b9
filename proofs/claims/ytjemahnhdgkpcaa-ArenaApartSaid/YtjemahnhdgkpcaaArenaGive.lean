/- Contract of Give of an arena, at every argument. -/
import Derived.Test.YtjemahnhdgkpcaaArenaTurn
namespace Go.Proofs.Ytjemahnhdgkpcaa
open Go.RowKit Go.ChangeShapes ArenaPure
theorem give_nil (x : Int) (w : World) :
    Calls Try.prog 8 #[.pointer none, .int .i64 x] w fun e w' => e = .returned (.tuple #[.int .i64 0, .bool false]) ∧ w = w' := by
  go_enter Try.func8, Try.ntmps8
  go_wp2_with (first | (go_at_call 17; refine (len_nil _).mono ?_; rintro e w' ⟨rfl, rfl⟩) | (go_at_call 18; refine (room_nil _).mono ?_; rintro e w' ⟨rfl, rfl⟩))
  go_ret2
  exact ⟨rfl, rfl⟩
theorem put_live_cons {N : Nat} {S : St} {x : Int} {n : Nat} {r : List Nat} (h : GoodS N S) (hF : S.F = n :: r) : liveN (putS S x) = liveN S + 1 := by
  obtain ⟨-, hn, -⟩ := first_free h hF
  have := count_lay hn true
  unfold putS
  rw [hF]
  unfold liveN
  simp at this
  exact this
theorem put_live_nil {S : St} {x : Int} (hF : S.F = []) : liveN (putS S x) = liveN S + 1 := by
  unfold putS
  rw [hF]
  unfold liveN
  simp [List.count_append]
def GiveOut (O : Nat → Prop) (b N : Nat) (S : St) (x : Int) (w w' : World) : Prop := Turn O w w' ∧ ∃ O', (∀ k, O' k → O k ∨ w.heap.size ≤ k) ∧ ArAt O' b w' N (giveS N S x)
theorem info_cell : ∃ i, (Try.prog.info? 49) = some i ∧ i.zero = some (.agg #[.int .i64 0, .bool false, .int .i64 0]) ∧ i.size = 3 ∧ i.bytes = 24 := info_of (by kernel_rfl)
theorem three_news {w : World} {u v x : Value} {T : TypeId} : ∀ j y, [u, v, x][j]? = some y → (w.alloc (.cells #[u, v, x] T)).cell? ((⟨w.heap.size, 0, none⟩ : Addr).add j) = some y := by
  intro j y hj
  match j, hj with
  | 0, hj => simp at hj; subst hj; simp [Addr.add]
  | 1, hj => simp at hj; subst hj; simp [Addr.add]
  | 2, hj => simp at hj; subst hj; simp [Addr.add]
set_option maxHeartbeats 2000000 in
theorem give_any (O : Nat → Prop) (b N : Nat) (S : St) (x : Int) (w : World) (h : ArAt O b w N S) :
    Calls Try.prog 8 #[.pointer (some ⟨b, 0, none⟩), .int .i64 x] w fun e w' => e = .returned (.tuple #[.int .i64 (giveN N S), .bool (giveB N S)]) ∧ GiveOut O b N S x w w' := by
  have HA := Lib.hid h
  have hN := h.1
  have hle := live_le h.2.1
  by_cases hf : liveN S = N
  · have t : ((liveN S : Int) == (N : Int)) = true := by rw [hf]; exact beq_self_eq_true _
    have H1 : Hid (giveN N S = 0) := Lib.hid (if_pos hf)
    have H2 : Hid (giveB N S = false) := Lib.hid (by unfold giveB; rw [decide_eq_true hf]; rfl)
    have H3 : Hid (GiveOut O b N S x w w) := Lib.hid ⟨Turn.refl _ _, O, fun k e => Or.inl e, by rw [show giveS N S x = S from if_pos hf]; exact HA.out⟩
    clear h hf
    go_enter Try.func8, Try.ntmps8
    go_wp2_with (first | (go_at_call 17; refine (len_any O b N S _ HA.out).mono ?_; rintro e w' ⟨rfl, rfl⟩) | (go_at_call 18; refine (room_any O b N S _ HA.out).mono ?_; rintro e w' ⟨rfl, rfl⟩))
    go_ret2
    exact ⟨ret_ib H1.out.symm H2.out.symm, H3.out⟩
  have t : ((liveN S : Int) == (N : Int)) = false := by
    have : ¬ (liveN S : Int) = (N : Int) := by omega
    simpa using this
  have H1 : Hid (giveN N S = (firstN S : Int)) := Lib.hid (if_neg hf)
  have H2 : Hid (giveB N S = true) := Lib.hid (by unfold giveB; rw [decide_eq_false hf]; rfl)
  have H3 : Hid (giveS N S x = putS S x) := Lib.hid (if_neg hf)
  cases hF : S.F with
  | cons n r =>
    obtain ⟨g, K, cap, z, ⟨c1, c2, c3⟩, ⟨f2, f3⟩, hnK, hlK, hb, hg, hbg, ⟨u0, u1, e0, e1, e2⟩, ⟨k0, k1, k2⟩, ht, ha⟩ := h.again hF hf x
    have H4 : Hid (firstN S = n) := Lib.hid (by unfold firstN; rw [hF]; rfl)
    have hL := put_live_cons (x := x) h.2.1 hF
    have HO : Hid (Turn O w _ ∧ _) := Lib.hid (And.intro ht ha)
    rw [hL] at HO
    simp only [lay3] at HO
    have a3 : (n : Int) < (K : Int) := by omega
    have a4 : (0 : Int) ≤ (n : Int) := by omega
    have a5 : (liveN S : Int) < (K : Int) := by omega
    have b1 : b ≠ g := by omega
    have b2 : g ≠ b := by omega
    clear h hf hF ht ha hL hnK hlK
    go_enter Try.func8, Try.ntmps8
    go_wp2_with (first | (go_at_call 17; refine (len_any O b N S _ HA.out).mono ?_; rintro e w' ⟨rfl, rfl⟩) | (go_at_call 18; refine (room_any O b N S _ HA.out).mono ?_; rintro e w' ⟨rfl, rfl⟩))
    go_ret2
    exact ⟨ret_ib (by rw [H1.out, H4.out]) H2.out.symm, HO.out.1, O, fun k e => Or.inl e, by rw [H3.out]; exact HO.out.2⟩
  | nil =>
    obtain ⟨-, hgd, v, f, cs, hfit, h4, hown, hO⟩ := h
    obtain ⟨i, hi1, hi2, hi3, hi4⟩ := info_cell
    have hl := hfit.1
    have hK : liveN S = cs.length := by rw [none_free hgd hF, hl]
    have hcs : cs.length ≤ 1048576 := by omega
    have hb := h4.lt
    have hbv : ∀ k, v.ownBlock = some k → b < k := fun k e => (hown.lt k e).1
    obtain ⟨q, cap, rfl⟩ := owns_any hown
    have H4 : Hid (firstN S = cs.length) := Lib.hid (by unfold firstN; rw [hF, hl]; rfl)
    have HM : Hid (∀ (o : Obj) (w' : World) (v' : Value), w'.ownsRow (b + 1) 49 3 v' (cs.length + 1) (flat cs ++ [.int .i64 x, .bool true, .int .i64 0]) → (w.alloc o).grownBy w' (Value.slice q cs.length cap).ownBlock →
        (v'.ownBlock = (Value.slice q cs.length cap).ownBlock ∨ v'.ownBlock = some (w.alloc o).heap.size) → _) := Lib.hid fun o w' v' h1 h2 h3 =>
      ArAt.more hN hgd hF hf x hfit rfl h4 hO h1 h2 hbv (fun k e => by
        rcases h3 with h3 | h3
        · exact Or.inl (h3 ▸ e)
        · rw [h3] at e
          have := Option.some.inj e
          simp at this
          exact Or.inr (by omega))
    have hL := put_live_nil (x := x) hF
    rw [hL] at HM
    obtain ⟨⟨c0, c1, c2, c3⟩, -⟩ := h4.cells
    have t2 : ¬ (liveN S : Int) < (cs.length : Int) := by omega
    have HW := Lib.hid hown
    clear hgd hF hf hO hfit hl hbv h4 hown hL hK
    go_enter Try.func8, Try.ntmps8
    go_wp2_with (first
      | (go_at_call 17; refine (len_any O b N S _ HA.out).mono ?_; rintro e w' ⟨rfl, rfl⟩)
      | (go_at_call 18; refine (room_any O b N S _ HA.out).mono ?_; rintro e w' ⟨rfl, rfl⟩)
      | (at_builtin; refine wpList_append_own_at _ rfl _ _ 45 rfl (b + 1) 49 i (.agg #[.int .i64 0, .bool false, .int .i64 0]) 3 24 Try.underlying45 hi1 hi2 hi3 hi4 rfl (by decide) (.slice q cs.length cap) cs.length (flat cs) rfl (HW.out.alloc _) ⟨w.heap.size, 0, none⟩ 1 1 [.int .i64 x, .bool true, .int .i64 0] rfl rfl three_news (by intro u hu; simp at hu; rcases hu with hu | hu | hu <;> (subst hu; rfl)) (by unfold maxLen; omega) (by omega) (by simp; omega) ?_; intro v' w6 hown6 hg6 _ hat6; have HX := Lib.hid (HM.out _ _ _ hown6 hg6 hat6); obtain ⟨q6, d6, e6⟩ := owns_any hown6; subst e6; obtain ⟨⟨z0, z1, z2, z3⟩, y0, y1, y2, y3⟩ := HX.out.1.cells; have hb6 := HX.out.1.lt; clear hown6 hg6 hat6 HM))
    go_ret2
    exact ⟨ret_ib (by rw [H1.out, H4.out]) H2.out.symm, HX.out.2.1, by rw [H3.out]; exact HX.out.2.2⟩
end Go.Proofs.Ytjemahnhdgkpcaa
