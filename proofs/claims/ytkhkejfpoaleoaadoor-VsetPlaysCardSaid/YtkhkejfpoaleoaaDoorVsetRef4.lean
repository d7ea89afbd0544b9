/- The document's answers of layer 9: a set with a vertex more, or less. -/
import Derived.Test.YtkhkejfpoaleoaaDoorVsetRef3
import Derived.Deep.Cut
import Derived.Deep.CutRange
namespace Go.Proofs.YtkhkejfpoaleoaaDoor
open Go.RowKit Go.ChangeShapes VsetPure
/-- The list lies in another block than X. -/
def Off (a : Option Addr) (X : Nat) : Prop := ∀ z, a = some z → z.block ≠ X
/-- What is in the document's set with a vertex more, or less. -/
def withP (m : Nat) (p : Nat → Bool) (v : Int) (b : Bool) (u : Nat) : Bool := if fitB m v && decide ((u : Int) = v) then b else p u
theorem withP_none {m : Nat} {p : Nat → Bool} {v : Int} (b : Bool) (h : fitB m v = false) : withP m p v b = p := by
  funext u; unfold withP; rw [h]; rfl
theorem withP_put (m : Nat) (p : Nat → Bool) (v : Int) : withP m p v true = putP m p v := by
  funext u; unfold withP putP
  cases fitB m v && decide ((u : Int) = v) <;> simp
theorem withP_drop (m : Nat) (p : Nat → Bool) (v : Int) (hp : ∀ u, m ≤ u → p u = false) : withP m p v false = dropP p v := by
  funext u; unfold withP dropP
  by_cases e : (u : Int) = v
  · subst e
    by_cases h : u < m
    · have : fitB m (u : Int) = true := by simp [fitB]; omega
      simp [this]
    · rw [hp u (by omega)]; simp
  · simp [e]
/-- A chain of worlds: what lies below M is as it was. -/
def Chain (M : Nat) (w W : World) : Prop := Below M w W ∧ M ≤ W.heap.size
theorem ch_start (w : World) : Chain w.heap.size w w := ⟨Below.refl _ _, Nat.le_refl _⟩
theorem ch_alloc {M : Nat} {w W : World} {o : Obj} (h : Chain M w W) : Chain M w (W.alloc o) := ⟨h.1.alloc h.2 o, by have := h.2; simp; omega⟩
theorem ch_drew {M : Nat} {w W : World} (h : Chain M w W) : Chain M w W.drew := ⟨below_drewN h.1 1, h.2⟩
theorem ch_grown {M : Nat} {w W W' : World} (h : Chain M w W) (hg : W.grownBy W' none) : Chain M w W' := ⟨h.1.grown hg h.2 (fun k e => by cases e), Nat.le_trans h.2 hg.size⟩
theorem ch_set {M b i : Nat} {w W : World} {v : Value} (h : Chain M w W) (hb : M ≤ b) : Chain M w (W.setCell ⟨b, i, none⟩ v) := ⟨h.1.setCell (p := ⟨b, i, none⟩) hb v, by have := h.2; simpa using this⟩
theorem two_feed {G : Prop} {b : Nat} {W W' : World} {u v : Value} (hg : W.grownBy W' none) (h0 : W.cell? ⟨b, 0, none⟩ = some u) (h1 : W.cell? ⟨b, 1, none⟩ = some v) (h2 : W.frozen? ⟨b, 0, none⟩ = false) (h3 : W.frozen? ⟨b, 1, none⟩ = false)
    (f : W'.cell? ⟨b, 0, none⟩ = some u → W'.cell? ⟨b, 1, none⟩ = some v → W'.frozen? ⟨b, 0, none⟩ = false → W'.frozen? ⟨b, 1, none⟩ = false → b < W'.heap.size → G) : G := by
  have t := two_past (row := none) (b := b) ⟨h0, h1, h2, h3⟩ hg (by simp)
  exact f t.1 t.2.1 t.2.2.1 t.2.2.2 t.lt
/-- Behind the copy: the new set's block, and the list that it has. -/
def WCut (W1 : World) (m : Nat) (p : Nat → Bool) (B g c : Nat) (W : World) : Prop :=
  Chain W1.heap.size W1 W ∧ TwoAt B W (.int .i64 (m : Int)) (.slice (some ⟨g, 0, none⟩) m c) ∧ RowIs g W ((inL m p).map encB) ∧ B ≠ g ∧ W1.heap.size ≤ g ∧ W1.heap.size ≤ B ∧ g < W.heap.size
theorem row_owned {w' : World} {B g m c : Nat} {T : TypeId} {L : List Value} (hm : L.length = m) (h : w'.ownsRow B T 1 (.slice (some ⟨g, 0, none⟩) (0 + m) c) (0 + m) ([] ++ L)) : RowIs g w' L := by
  intro i hi
  have hc := h.cells (g := g) rfl i L[i] (by rw [List.nil_append, List.getElem?_eq_getElem hi])
  rw [addr_add, Nat.zero_add] at hc
  refine ⟨hc, ?_⟩
  rcases h.2 with ⟨e, -⟩ | ⟨g', cap, cur, e, -, hg, -⟩
  · cases e
  · cases e
    simp [World.frozen?, hg]
theorem cut_new {W1 w' : World} {B g m c : Nat} {T T' : TypeId} {p : Nat → Bool} (h : w'.ownsRow B T 1 (.slice (some ⟨g, 0, none⟩) (0 + m) c) (0 + m) ([] ++ (inL m p).map encB)) (hch : Chain W1.heap.size W1 w') (h1 : B ≤ g) (h2 : W1.heap.size ≤ B) (h3 : g < w'.heap.size) :
    WCut W1 m p w'.heap.size g c (w'.alloc (.cells #[.int .i64 (m : Int), .slice (some ⟨g, 0, none⟩) m c] T')) := by
  have hr := row_owned (by simp [inL]) h
  exact ⟨ch_alloc hch, TwoAt.new _ _ _ _, hr.on ((Below.refl _ w').alloc (Nat.le_refl _) _) h3, by omega, by omega, hch.2, by simp; omega⟩
theorem cut_set {W1 w' : World} {B B7 g m c : Nat} {T : TypeId} {p : Nat → Bool} (h : w'.ownsRow B T 1 (.slice (some ⟨g, 0, none⟩) (0 + m) c) (0 + m) ([] ++ (inL m p).map encB)) (hch : Chain W1.heap.size W1 w') (h1 : B ≤ g) (h2 : W1.heap.size ≤ B) (h3 : g < w'.heap.size)
    (z0 : w'.cell? ⟨B7, 0, none⟩ = some (.int .i64 0)) (z1 : w'.cell? ⟨B7, 1, none⟩ = some (.slice none 0 0)) (z2 : w'.frozen? ⟨B7, 0, none⟩ = false) (z3 : w'.frozen? ⟨B7, 1, none⟩ = false) (h4 : B7 < B) (h5 : W1.heap.size ≤ B7) :
    WCut W1 m p B7 g c ((w'.setCell ⟨B7, 0, none⟩ (.int .i64 (m : Int))).setCell ⟨B7, 1, none⟩ (.slice (some ⟨g, 0, none⟩) m c)) := by
  have hr := row_owned (by simp [inL]) h
  have hg := grown_trans (grown_cell w' B7 0 (.int .i64 (m : Int))) (grown_cell _ B7 1 (.slice (some ⟨g, 0, none⟩) m c))
  exact ⟨ch_set (ch_set hch h5) h5, TwoAt.set ⟨z0, z1, z2, z3⟩ _ _, row_past hr h3 hg (fun e => by have := Option.some.inj e; omega), by omega, by omega, h5, by simpa using h3⟩
set_option maxHeartbeats 4000000 in
theorem withRef_any (m : Nat) (hm : m ≤ 4096) (p : Nat → Bool) (a : Option Addr) (cap : Nat) (v : Int) (x : Bool) (w : World) (h : RefAt w a m p) :
    Calls Tryd.prog 12 #[.agg #[.int .i64 (m : Int), .slice a m cap], .int .i64 v, .bool x] w fun e w' => ∃ q c, e = .returned (.agg #[.int .i64 (m : Int), .slice q m c]) ∧ RefAt w' q m (withP m p v x) ∧ (∀ X, X < w.heap.size → Off a X → Off q X) ∧ Below w.heap.size w w' := by
  have hF := Lib.hid (show fitB m v = (decide (0 ≤ v) && decide (v < m)) from rfl)
  have HB : ∀ c c', Below w.heap.size w ((w.alloc c).alloc c') := fun c c' => ((Below.refl _ w).alloc (Nat.le_refl _) c).alloc (by simp) c'
  have HE : Hid (fitB m v = false → ∀ T T', RefAt ((w.alloc T).alloc T') a m (withP m p v x) ∧ Below w.heap.size w ((w.alloc T).alloc T')) := Lib.hid (fun hf T T' =>
    ⟨by rw [withP_none x hf]; exact h.keep (HB _ _), HB _ _⟩)
  by_cases h0 : 0 ≤ v
  · have t1 : decide (v < 0) = false := decide_eq_false (by omega)
    by_cases h1 : v < m
    · have t2 : decide (v ≥ (m : Int)) = false := decide_eq_false (by omega)
      clear HE
      have HB2 := Lib.hid HB
      obtain ⟨u, rfl⟩ := Int.eq_ofNat_of_zero_le h0
      have hum : u < m := by omega
      obtain ⟨b, off, rfl, hbN, -⟩ := h.at hum
      obtain ⟨i0, hi, hz0, hz1, hz2⟩ := info_parts (show (Tryd.prog.info? 4).map (fun i => (i.zero, i.size, i.bytes)) = some (some (.bool false), 1, 1) by kernel_rfl)
      have H := Lib.hid h
      have hT := (TwoAt.new w (.int .i64 (m : Int)) (.slice (some ⟨b, off, none⟩) m cap) 28).on ((Below.refl _ (w.alloc (.cells #[.int .i64 (m : Int), .slice (some ⟨b, off, none⟩) m cap] 28))).alloc (Nat.le_refl _) (.cells #[.int .i64 0, .slice none 0 0] 28)) (by simp)
      have hR := TwoAt.new (w.alloc (.cells #[.int .i64 (m : Int), .slice (some ⟨b, off, none⟩) m cap] 28)) (.int .i64 0) (.slice none 0 0) 28
      rw [World.size_alloc] at hR
      have hsz : ((w.alloc (.cells #[.int .i64 (m : Int), .slice (some ⟨b, off, none⟩) m cap] 28)).alloc (.cells #[.int .i64 0, .slice none 0 0] 28)).heap.size = w.heap.size + 2 := by simp
      have hBel := HB (.cells #[.int .i64 (m : Int), .slice (some ⟨b, off, none⟩) m cap] 28) (.cells #[.int .i64 0, .slice none 0 0] 28)
      clear h HB h0 h1
      go_enter Tryd.func12, Tryd.ntmps12
      go_upto_region 3 with fail
      generalize ((w.alloc (.cells #[.int .i64 (m : Int), .slice (some ⟨b, off, none⟩) m cap] 28)).alloc (.cells #[.int .i64 0, .slice none 0 0] 28)) = W1 at *
      have HSrc : Hid (∀ W, Chain W1.heap.size W1 W → ∀ j u, ((inL m p).map encB)[j]? = some u → W.cell? ((⟨b, off, none⟩ : Addr).add j) = some u) := Lib.hid (fun W hW j u hu => by
        have hj : j < m := by have := (List.getElem?_eq_some_iff.1 hu).1; rwa [List.length_map, inL_len] at this
        obtain ⟨b', off', e1, -, e2⟩ := (H.out.keep hBel).at hj
        cases e1
        rw [addr_add, (hW.1.cell (p := ⟨b, off + j, none⟩) (by rw [hsz]; simp; omega)), e2]
        rw [← hu, List.getElem?_eq_getElem (by rw [List.length_map, inL_len]; exact hj), List.getElem_map, inL_at]
        rfl)
      have HCells : Hid (∀ W, Chain W1.heap.size W1 W → W.cell? ⟨w.heap.size, 0, none⟩ = some (.int .i64 (m : Int)) ∧ W.cell? ⟨w.heap.size, 1, none⟩ = some (.slice (some ⟨b, off, none⟩) m cap)) := Lib.hid (fun W hW =>
        ⟨(hW.1.cell (p := ⟨w.heap.size, 0, none⟩) (by rw [hsz]; simp)).trans hT.1, (hW.1.cell (p := ⟨w.heap.size, 1, none⟩) (by rw [hsz]; simp)).trans hT.2.1⟩)
      obtain ⟨k0, k1⟩ := HCells.out W1 (ch_start W1)
      have HT := Lib.hid hT
      have HR := Lib.hid hR
      have HBel := Lib.hid hBel
      have HSZ := Lib.hid hsz
      have hN : w.heap.size < W1.heap.size := by omega
      clear hT hR hBel hsz
      go_cut [7] from 8 (fun v wx => ∃ (B g c : Nat), v = .pointer (some ⟨B, 0, none⟩) ∧ Hid (WCut W1 m p B g c wx))
      case first =>
        go_region_law (first | (refine step_append_grows rfl (.tmp 19) (.tmp 21) 26 rfl 4 i0 (.bool false) 1 1 Tryd.underlying26 hi hz0 hz1 hz2 rfl (by decide) _ 0 0 [] rfl (fun _ => ⟨rfl, rfl⟩) rfl (fun _ _ j u hu => by simp at hu) ⟨b, off, none⟩ m cap ((inL m p).map encB) rfl (by simp [inL]) (fun j u hu => HSrc.out _ (by repeat (first | exact ch_start _ | apply ch_alloc | apply ch_drew)) j u hu) (by intro u hu; obtain ⟨y, -, rfl⟩ := List.mem_map.1 hu; rfl) (by omega) (by unfold maxLen; omega) (by omega) ?_; intro v' w' hown hgr; obtain ⟨g, c, rfl, hg1, hg2⟩ := hown.form (by omega); have hch := ch_grown (w := W1) (M := W1.heap.size) (by repeat (first | exact ch_start _ | apply ch_alloc | apply ch_drew)) hgr; obtain ⟨l0, l1⟩ := HCells.out _ hch; have hN' := Nat.lt_of_lt_of_le hN hch.2; have HOwn := Lib.hid hown; have HCh := Lib.hid hch; have HG := Lib.hid hg1; have HG2 := Lib.hid hg2; (try (refine two_feed (b := W1.heap.size) (u := .int .i64 0) (v := .slice none 0 0) hgr ?_ ?_ ?_ ?_ ?_; (iterate 4 (focus (go_simp; done))); intro z0 z1 z2 z3 z4)); (try (refine two_feed (b := W1.heap.size + 1) (u := .int .i64 0) (v := .slice none 0 0) hgr ?_ ?_ ?_ ?_ ?_; (iterate 4 (focus (go_simp; done))); intro z0 z1 z2 z3 z4)); clear hown hgr hch hg1 hg2))
        all_goals (go_wp2_with fail; go_meet)
        all_goals first
          | exact ⟨_, g, c, rfl, Lib.hid (cut_new HOwn.out HCh.out HG.out (by simp <;> omega) HG2.out)⟩
          | exact ⟨_, g, c, rfl, Lib.hid (cut_set HOwn.out HCh.out HG.out (by simp <;> omega) HG2.out z0 z1 z2 z3 (by simp <;> omega) (by simp <;> omega))⟩
      case rest =>
        obtain ⟨B, g, c, rfl, HC⟩ := hcut
        have hi0 : (0 : Int) ≤ (u : Int) := by omega
        have hi1 : (u : Int) < (m : Int) := by omega
        have hend : Hid (∀ W, wc.grownBy W (some g) → RowIs g W ((inL m (withP m p (u : Int) x)).map encB) → ∀ W', W.grownBy W' (some (w.heap.size + 1)) → RefAt W' (some ⟨g, 0, none⟩) m (withP m p (u : Int) x) ∧ Below w.heap.size w W') := Lib.hid (fun W k1 k2 W' k3 => by
          obtain ⟨⟨b1, b2⟩, -, -, b3, b4, b5, b6⟩ := HC.out
          have hz := HSZ.out
          refine ⟨row_ref (row_past k2 (Nat.lt_of_lt_of_le b6 k1.size) k3 (fun e => by have := Option.some.inj e; omega)), ?_⟩
          have q1 := HBel.out.trans (b1.mono HBel.out.size)
          exact (q1.trans (below_grown k1 (by omega) q1.size)).trans (below_grown k3 (by omega) (Nat.le_trans q1.size k1.size)))
        have ht := HC.out.2.1
        have e1 := ht.2.1
        obtain ⟨r0, r1⟩ := HC.out.2.2.1 u (by rw [List.length_map, inL_len]; exact hum)
        have hg := grown_cell wc g u (.bool x)
        have hrow := HC.out.2.2.1.set (k := u) (by rw [List.length_map, inL_len]; exact hum) (.bool x)
        rw [inL_set m _ (withP m p (u : Int) x) hum x (by unfold withP; have : fitB m (u : Int) = true := by simp [fitB]; omega
                                                          simp [this]) (fun v hv => by
          unfold withP
          have : ¬ (v : Int) = (u : Int) := by omega
          simp [this])] at hrow
        have ht2 := two_past ht hg (fun e => HC.out.2.2.2.1 (Option.some.inj e))
        have hR0 := HR.out.on HC.out.1.1 HR.out.lt
        have hR2 := two_past hR0 hg (fun e => by have := Option.some.inj e; have := HC.out.2.2.2.2.1; have := HSZ.out; omega)
        have HE := Lib.hid (hend.out _ hg hrow)
        have f0 := ht2.1
        have f1 := ht2.2.1
        obtain ⟨x0, x1, y0, y1⟩ := hR2
        have HOff : Hid (∀ X, X < w.heap.size → Off (some ⟨b, off, none⟩) X → Off (some ⟨g, 0, none⟩) X) := Lib.hid (fun X hX _ z hz e => by
          cases hz
          have := HC.out.2.2.2.2.1
          have := HSZ.out
          simp at e
          omega)
        clear hend hrow ht ht2 hR0 hg HC
        go_wp2
        have g1 := grown_trans (grown_cell (wc.setCell ⟨g, u, none⟩ (.bool x)) (w.heap.size + 1) 0 (.int .i64 (m : Int))) (grown_cell _ (w.heap.size + 1) 1 (.slice (some ⟨g, 0, none⟩) m c))
        have ts := TwoAt.set (N := w.heap.size + 1) (w := wc.setCell ⟨g, u, none⟩ (.bool x)) ⟨x0, x1, y0, y1⟩ (.int .i64 (m : Int)) (.slice (some ⟨g, 0, none⟩) m c)
        have s0 := ts.1
        have s1 := ts.2.1
        obtain ⟨q1, q2⟩ := HE.out _ g1
        refine bodyPost_ret (v := .agg #[.int .i64 (m : Int), .slice (some ⟨g, 0, none⟩) m c]) (by simp [results, Tryd.results12, go_sem, s0, s1]) rfl ⟨_, _, rfl, q1, HOff.out, q2⟩
    · have t2 : decide (v ≥ (m : Int)) = true := decide_eq_true (by omega)
      have hE := HE.out (by unfold fitB; rw [decide_eq_false h1, Bool.and_false])
      have HE2 := Lib.hid hE
      clear hE HE h HB
      go_enter Tryd.func12, Tryd.ntmps12
      go_wp2
      have hv := HE2.out (.cells #[.int .i64 (m : Int), .slice a m cap] 28) (.cells #[.int .i64 (m : Int), .slice a m cap] 28)
      exact bodyPost_ret (v := .agg #[.int .i64 (m : Int), .slice a m cap]) (by simp [results, Tryd.results12, go_sem]) rfl ⟨a, ⟨cap, rfl⟩, hv.1, fun _ _ h => h, hv.2⟩
  · have t1 : decide (v < 0) = true := decide_eq_true (by omega)
    have hE := HE.out (by unfold fitB; rw [decide_eq_false h0, Bool.false_and])
    have HE2 := Lib.hid hE
    clear hE HE h HB
    go_enter Tryd.func12, Tryd.ntmps12
    go_wp2
    have hv := HE2.out (.cells #[.int .i64 (m : Int), .slice a m cap] 28) (.cells #[.int .i64 (m : Int), .slice a m cap] 28)
    exact bodyPost_ret (v := .agg #[.int .i64 (m : Int), .slice a m cap]) (by simp [results, Tryd.results12, go_sem]) rfl ⟨a, ⟨cap, rfl⟩, hv.1, fun _ _ h => h, hv.2⟩
end Go.Proofs.YtkhkejfpoaleoaaDoor
