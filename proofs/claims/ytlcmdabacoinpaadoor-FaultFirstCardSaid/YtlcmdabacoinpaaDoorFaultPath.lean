/- Path at a fault within parts: the parts that were told of it, / between. -/
import Derived.Test.YtlcmdabacoinpaaDoorFaultFind2
import Derived.Test.YtlcmdabacoinpaaDoorShJoin
namespace Go.Proofs.YtlcmdabacoinpaaDoor
open Go.RowKit Go.ChangeShapes
namespace Ft
/-- Parts as a path. -/
def pathT (l : List (List UInt8)) : List UInt8 := Lib.join l [47]
def ShortP (l : List (List UInt8)) : Prop := l.length ≤ 1000000 ∧ (pathT l).length ≤ 100000000
theorem joinP_any (a : Option Addr) (cap : Nat) (l : List (List UInt8)) (w : World) (hl : ReadsL encS w.heap.size w a l) (hc : l.length ≤ cap) (hs : ShortP l) :
    Calls Tryd.prog 19 #[.slice a l.length cap, .string ⟨#[47]⟩] w fun e w' => e = .returned (.string ⟨(pathT l).toArray⟩) ∧ Below w.heap.size w w' := by
  rcases hl with h | ⟨b, off, rfl, hb, hcell⟩
  · subst h
    exact (Tryd.strings_Join_none a cap ⟨#[47]⟩ w).mono fun e w' ⟨he, hw⟩ => ⟨he, hw ▸ Below.refl _ _⟩
  · have hm : (l.map fun p => (⟨p.toArray⟩ : ByteArray)).map (·.data.toList) = l := by
      rw [List.map_map]
      conv => rhs; rw [← List.map_id l]
      exact List.map_congr_left fun p _ => rfl
    have hj : Lib.join ((l.map fun p => (⟨p.toArray⟩ : ByteArray)).map (·.data.toList)) (⟨#[47]⟩ : ByteArray).data.toList = pathT l := by
      rw [hm]; rfl
    have h := Tryd.strings_Join b off cap (l.map fun p => (⟨p.toArray⟩ : ByteArray)) ⟨#[47]⟩ w (fun j x hx => by
      rw [List.getElem?_map] at hx
      obtain ⟨p, hp, rfl⟩ := Option.map_eq_some_iff.1 hx
      obtain ⟨hj, rfl⟩ := List.getElem?_eq_some_iff.1 hp
      exact hcell j hj) hb (by rw [List.length_map]; have := hs.1; omega) (by rw [List.length_map]; exact hc) (by rw [hj]; have := hs.2; omega)
    rw [hj, List.length_map] at h
    exact h
/-- At the head of a round: so many parts are gathered, so many are left. -/
def PathRel (w0 : World) (e k : Int) (ps qs rs : List (List UInt8)) (v u : Value) (w : World) : Prop := ps = qs ++ rs ∧ ErrAt w0.heap.size w e k rs v ∧ GrowRel encS 9 w0 qs u w
set_option maxRecDepth 100000 in
set_option maxHeartbeats 1000000 in
theorem path_any {w : World} {e k : Int} {ps : List (List UInt8)} {v : Value} (h : ErrAt w.heap.size w e k ps v) (hs : ShortP ps) (hg : EtAt w) :
    Calls Tryd.prog 10 #[v] w fun x w' => x = .returned (.string ⟨(pathT ps).toArray⟩) ∧ Below w.heap.size w w' := by
  have HS := Lib.hid hs
  have HG := Lib.hid hg
  have H0 : Hid (PathRel w e k ps [] ps v (.slice none 0 0) w) := Lib.hid ⟨rfl, h, GrowRel.start _ _ _⟩
  obtain ⟨i0, hi, hz0, hz1, hz2⟩ := info_of infoStr
  clear h hs hg
  go_enter Tryd.func10, Tryd.ntmps10
  go_wp2
  go_loopw [0, 3] (fun v' u' wr => ∃ qs rs, Hid (PathRel w e k ps qs rs v' u' wr)) (fun v' _ wr => errLen w.heap.size wr e k v')
  case atStart => exact ⟨[], ps, H0⟩
  case round =>
    obtain ⟨qs, rs, HR⟩ := hrel
    have hsz := HR.out.2.2.1.size
    have HGr := Lib.hid (HG.out.on HR.out.2.2.1)
    cases rs with
    | nil =>
      obtain ⟨hps, ⟨F, hF, rfl, h0, h1⟩, hgr⟩ := HR.out
      have HN := Lib.hid (find_none F e wr h0 HGr.out)
      have HP := Lib.hid hps
      have HGR := Lib.hid hgr
      clear hps h0 h1 hgr HR
      go_wp2_with fail
      refine HN.out.mono ?_
      rintro x w1 ⟨rfl, hb⟩
      have HGR1 := Lib.hid (HGR.out.on hb)
      have HB1 := Lib.hid (HGR.out.1.trans (hb.mono hsz))
      clear hb HN HGR
      have hqs := HP.out
      rw [List.append_nil] at hqs
      subst hqs
      obtain ⟨p, cap, rfl, hrd, hcap⟩ := HGR1.out.reads
      have HJ := Lib.hid (joinP_any p cap ps w1 hrd hcap HS.out)
      clear hrd hcap HGR1 HP
      go_wp2_with fail
      refine HJ.out.mono ?_
      rintro x w2 ⟨rfl, hb⟩
      have HB2 := Lib.hid (HB1.out.trans (hb.mono HB1.out.size))
      clear hb HJ
      go_wp2
      go_ret
      exact ⟨rfl, HB2.out⟩
    | cons p rs =>
      obtain ⟨hps, ⟨F, u, hF, rfl, h0, h1, h2⟩, hgr⟩ := HR.out
      obtain ⟨ut, uv, rfl⟩ := h2.iface
      have hlF : F < wr.heap.size := Nat.lt_of_lt_of_le hF hsz
      have HL0 := Lib.hid (errLen_eq HR.out.2.1)
      have HN := Lib.hid (find_part F wr HGr.out)
      have HP := Lib.hid hps
      have HGR := Lib.hid hgr
      have H0c := Lib.hid h0
      have H1c := Lib.hid h1
      have H2 := Lib.hid h2
      clear hps h0 h1 h2 hgr HR
      go_wp2_with fail
      refine HN.out.mono ?_
      rintro x w1 ⟨rfl, hb⟩
      have HGR1 := Lib.hid (HGR.out.on hb)
      have c0 := (hb.cell (p := ⟨F, 0, none⟩) (by exact hlF)).trans H0c.out
      have hlt1 := World.block_lt_of_cell? w1 _ c0
      have H1d := Lib.hid ((hb.cell (p := ⟨F, 1, none⟩) (by exact hlF)).trans H1c.out)
      have H2d := Lib.hid (H2.out.on (hb.mono hsz))
      have HB1 := Lib.hid hb
      have hlen : qs.length ≤ 1000000 := by have := HS.out.1; rw [HP.out] at this; simp at this; omega
      have hsz1 := hb.size
      have HST : Hid (∀ v' w' o, w'.ownsRow w.heap.size 9 1 v' (qs.length + 1) (qs.map encS ++ [encS p]) → (w1.alloc o).grownBy w' u3.ownBlock → GrowRel encS 9 w (qs ++ [p]) v' w') :=
        Lib.hid fun v' w' o h1 h2 => HGR1.out.step (o := o) p h1 h2
      clear hb HN HGR H0c H1c H2
      have hep : encS p = .string ⟨p.toArray⟩ := rfl
      rw [hep] at c0 HST
      generalize (⟨p.toArray⟩ : ByteArray) = S at *
      clear hep
      go_wp2_with (first
        | (at_builtin; refine wpList_append_own _ rfl _ _ 22 rfl w.heap.size 9 i0 (.string ⟨#[]⟩) 1 16 Tryd.underlying22 hi hz0 hz1 hz2 rfl (by decide) u3 qs.length (qs.map encS) rfl (HGR1.out.2.alloc _) ⟨w1.heap.size, 0, none⟩ 1 1 [.string S] rfl rfl (one_newsAt rfl) (by intro u hu; simp at hu; subst hu; rfl) (by unfold maxLen; omega) (by omega) (by simp; omega) ?_))
      intro v' w2 hown hgrow _
      have HN2 := Lib.hid (HST.out v' w2 _ hown hgrow)
      have bo := ((Below.refl w.heap.size w1).alloc (Nat.le_trans hsz hsz1) (.cells #[.string S] 9)).grown hgrow (by have := hsz; have := hsz1; simp; omega) fun j hj => (HGR1.out.2.lt j hj).1
      have h2' := H2d.out.on bo
      have HR2 : Hid (PathRel w e k ps (qs ++ [p]) rs (.iface ut uv) v' w2) := Lib.hid ⟨by rw [HP.out, List.append_assoc]; rfl, h2', HN2.out⟩
      have HM : Hid (errLen w.heap.size w2 e k (.iface ut uv) < errLen w.heap.size wr e k (.iface 46 (.pointer (some ⟨F, 0, none⟩)))) := Lib.hid (by rw [HL0.out, errLen_eq h2']; simp)
      have c1 := (bo.cell (p := ⟨F, 1, none⟩) (by exact hF)).trans H1d.out
      have hlt2 := World.block_lt_of_cell? w2 _ c1
      clear hown hgrow bo h2' HN2 HST HGR1 c0 H2d H1d HP hlt1 hlen hsz1
      go_wp2
      go_roundw
      case rel => exact ⟨qs ++ [p], rs, HR2⟩
      case measure => exact HM.out
end Ft
end Go.Proofs.YtlcmdabacoinpaaDoor
