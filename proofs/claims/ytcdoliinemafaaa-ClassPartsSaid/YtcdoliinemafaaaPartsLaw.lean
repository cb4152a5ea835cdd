/-
  galleylaw01.ClassParts: its walk (written by gen_parts.py).
-/
import Derived.Test.YtcdoliinemafaaaPartsM
import Derived.Test.YtcdoliinemafaaaWorks
import Derived.Deep.RegionLaw
namespace Go.Proofs.Ytcdoliinemafaaa
open Go.RowKit

theorem keepN1 {w w1 w2 : World} {b0 o0 p0 p1 p2 p3 o0_1 o0_2 o0_3 : Nat} (h : (w1.cell? ⟨b0, o0, none⟩ = some (.int .u64 (p0 : Int)) ∧ w1.cell? ⟨b0, o0_1, none⟩ = some (.int .u64 (p1 : Int)) ∧ w1.cell? ⟨b0, o0_2, none⟩ = some (.int .u64 (p2 : Int)) ∧ w1.cell? ⟨b0, o0_3, none⟩ = some (.int .u64 (p3 : Int))) ∧ Below w.heap.size w w1) (hb : Below w1.heap.size w1 w2) :
    (w2.cell? ⟨b0, o0, none⟩ = some (.int .u64 (p0 : Int)) ∧ w2.cell? ⟨b0, o0_1, none⟩ = some (.int .u64 (p1 : Int)) ∧ w2.cell? ⟨b0, o0_2, none⟩ = some (.int .u64 (p2 : Int)) ∧ w2.cell? ⟨b0, o0_3, none⟩ = some (.int .u64 (p3 : Int))) ∧ Below w.heap.size w w2 := by
  have k : ∀ {a v}, w1.cell? a = some v → w2.cell? a = some v := fun {a v} ha => by rw [hb.cell (World.block_lt_of_cell? w1 _ ha)]; exact ha
  obtain ⟨⟨x00, x01, x02, x03⟩, hB⟩ := h
  exact ⟨⟨k x00, k x01, k x02, k x03⟩, hB.trans (hb.mono hB.size)⟩
theorem keepN2 {w w1 w2 : World} {b0 o0 p0 p1 p2 p3 b1 o1 q0 q1 q2 q3 o0_1 o0_2 o0_3 o1_1 o1_2 o1_3 : Nat} (h : (w1.cell? ⟨b0, o0, none⟩ = some (.int .u64 (p0 : Int)) ∧ w1.cell? ⟨b0, o0_1, none⟩ = some (.int .u64 (p1 : Int)) ∧ w1.cell? ⟨b0, o0_2, none⟩ = some (.int .u64 (p2 : Int)) ∧ w1.cell? ⟨b0, o0_3, none⟩ = some (.int .u64 (p3 : Int))) ∧ (w1.cell? ⟨b1, o1, none⟩ = some (.int .u64 (q0 : Int)) ∧ w1.cell? ⟨b1, o1_1, none⟩ = some (.int .u64 (q1 : Int)) ∧ w1.cell? ⟨b1, o1_2, none⟩ = some (.int .u64 (q2 : Int)) ∧ w1.cell? ⟨b1, o1_3, none⟩ = some (.int .u64 (q3 : Int))) ∧ Below w.heap.size w w1) (hb : Below w1.heap.size w1 w2) :
    (w2.cell? ⟨b0, o0, none⟩ = some (.int .u64 (p0 : Int)) ∧ w2.cell? ⟨b0, o0_1, none⟩ = some (.int .u64 (p1 : Int)) ∧ w2.cell? ⟨b0, o0_2, none⟩ = some (.int .u64 (p2 : Int)) ∧ w2.cell? ⟨b0, o0_3, none⟩ = some (.int .u64 (p3 : Int))) ∧ (w2.cell? ⟨b1, o1, none⟩ = some (.int .u64 (q0 : Int)) ∧ w2.cell? ⟨b1, o1_1, none⟩ = some (.int .u64 (q1 : Int)) ∧ w2.cell? ⟨b1, o1_2, none⟩ = some (.int .u64 (q2 : Int)) ∧ w2.cell? ⟨b1, o1_3, none⟩ = some (.int .u64 (q3 : Int))) ∧ Below w.heap.size w w2 := by
  have k : ∀ {a v}, w1.cell? a = some v → w2.cell? a = some v := fun {a v} ha => by rw [hb.cell (World.block_lt_of_cell? w1 _ ha)]; exact ha
  obtain ⟨⟨x00, x01, x02, x03⟩, ⟨x10, x11, x12, x13⟩, hB⟩ := h
  exact ⟨⟨k x00, k x01, k x02, k x03⟩, ⟨k x10, k x11, k x12, k x13⟩, hB.trans (hb.mono hB.size)⟩
theorem keepN3 {w w1 w2 : World} {b0 o0 p0 p1 p2 p3 b1 o1 q0 q1 q2 q3 b2 o2 r0 r1 r2 r3 o0_1 o0_2 o0_3 o1_1 o1_2 o1_3 o2_1 o2_2 o2_3 : Nat} (h : (w1.cell? ⟨b0, o0, none⟩ = some (.int .u64 (p0 : Int)) ∧ w1.cell? ⟨b0, o0_1, none⟩ = some (.int .u64 (p1 : Int)) ∧ w1.cell? ⟨b0, o0_2, none⟩ = some (.int .u64 (p2 : Int)) ∧ w1.cell? ⟨b0, o0_3, none⟩ = some (.int .u64 (p3 : Int))) ∧ (w1.cell? ⟨b1, o1, none⟩ = some (.int .u64 (q0 : Int)) ∧ w1.cell? ⟨b1, o1_1, none⟩ = some (.int .u64 (q1 : Int)) ∧ w1.cell? ⟨b1, o1_2, none⟩ = some (.int .u64 (q2 : Int)) ∧ w1.cell? ⟨b1, o1_3, none⟩ = some (.int .u64 (q3 : Int))) ∧ (w1.cell? ⟨b2, o2, none⟩ = some (.int .u64 (r0 : Int)) ∧ w1.cell? ⟨b2, o2_1, none⟩ = some (.int .u64 (r1 : Int)) ∧ w1.cell? ⟨b2, o2_2, none⟩ = some (.int .u64 (r2 : Int)) ∧ w1.cell? ⟨b2, o2_3, none⟩ = some (.int .u64 (r3 : Int))) ∧ Below w.heap.size w w1) (hb : Below w1.heap.size w1 w2) :
    (w2.cell? ⟨b0, o0, none⟩ = some (.int .u64 (p0 : Int)) ∧ w2.cell? ⟨b0, o0_1, none⟩ = some (.int .u64 (p1 : Int)) ∧ w2.cell? ⟨b0, o0_2, none⟩ = some (.int .u64 (p2 : Int)) ∧ w2.cell? ⟨b0, o0_3, none⟩ = some (.int .u64 (p3 : Int))) ∧ (w2.cell? ⟨b1, o1, none⟩ = some (.int .u64 (q0 : Int)) ∧ w2.cell? ⟨b1, o1_1, none⟩ = some (.int .u64 (q1 : Int)) ∧ w2.cell? ⟨b1, o1_2, none⟩ = some (.int .u64 (q2 : Int)) ∧ w2.cell? ⟨b1, o1_3, none⟩ = some (.int .u64 (q3 : Int))) ∧ (w2.cell? ⟨b2, o2, none⟩ = some (.int .u64 (r0 : Int)) ∧ w2.cell? ⟨b2, o2_1, none⟩ = some (.int .u64 (r1 : Int)) ∧ w2.cell? ⟨b2, o2_2, none⟩ = some (.int .u64 (r2 : Int)) ∧ w2.cell? ⟨b2, o2_3, none⟩ = some (.int .u64 (r3 : Int))) ∧ Below w.heap.size w w2 := by
  have k : ∀ {a v}, w1.cell? a = some v → w2.cell? a = some v := fun {a v} ha => by rw [hb.cell (World.block_lt_of_cell? w1 _ ha)]; exact ha
  obtain ⟨⟨x00, x01, x02, x03⟩, ⟨x10, x11, x12, x13⟩, ⟨x20, x21, x22, x23⟩, hB⟩ := h
  exact ⟨⟨k x00, k x01, k x02, k x03⟩, ⟨k x10, k x11, k x12, k x13⟩, ⟨k x20, k x21, k x22, k x23⟩, hB.trans (hb.mono hB.size)⟩

/-- The first j classes of l do not tell a from b. -/
def SameTo (l : List Cl) (a b : Cl) (j : Nat) : Prop := ∀ (i : Nat) (h : i < l.length), i < j → meetB l[i] a = meetB l[i] b
theorem SameTo.next {l : List Cl} {a b : Cl} {j : Nat} (h : SameTo l a b j) (hj : j < l.length) (he : meetB l[j] a = meetB l[j] b) : SameTo l a b (j + 1) := fun i hi hlt => by
  by_cases e : i = j
  · subst e; exact he
  · exact h i hi (by omega)
/-- A list of atoms, and a class in a box. -/
structure PW (w W : World) (b5 ga ca : Nat) (acc : Cl) (ts : List Cl) : Prop where
  ow : OwnCs W w.heap.size (.slice (some ⟨ga, 0, none⟩) ts.length ca) ts
  a5 : Arr64 W b5 24 acc.1
  bel : Below w.heap.size w W
  h5 : w.heap.size ≤ b5
  ne : ga ≠ b5
theorem PW.below {w W W' : World} {b5 ga ca : Nat} {acc : Cl} {ts : List Cl} (h : PW w W b5 ga ca acc ts) (hb : Below W.heap.size W W') : PW w W' b5 ga ca acc ts :=
  { h with ow := h.ow.below hb, a5 := h.a5.below hb h.a5.lt, bel := h.bel.trans (hb.mono h.bel.size) }
/-- Four words are stored into a box. -/
def set4 (W : World) (b : Nat) (u0 u1 u2 u3 : Nat) : World := (((W.setCell ⟨b, 0, none⟩ (.int .u64 (u0 : Int))).setCell ⟨b, 1, none⟩ (.int .u64 (u1 : Int))).setCell ⟨b, 2, none⟩ (.int .u64 (u2 : Int))).setCell ⟨b, 3, none⟩ (.int .u64 (u3 : Int))
theorem Arr64.set4 {W : World} {b : Nat} {acc : Cl} (h : Arr64 W b 24 acc.1) (u0 u1 u2 u3 : Nat) : Arr64 (set4 W b u0 u1 u2 u3) b 24 [u0, u1, u2, u3] := by
  obtain ⟨p0, p1, p2, p3, hp⟩ := isC_words acc.1 acc.2
  rw [hp] at h
  exact (((h.set 0 u0).set 1 u1).set 2 u2).set 3 u3
theorem Arr64.set4_other {W : World} {b g : Nat} {T : TypeId} {c : List Nat} (h : Arr64 W g T c) (hne : g ≠ b) (u0 u1 u2 u3 : Nat) : Arr64 (Go.Proofs.Ytcdoliinemafaaa.set4 W b u0 u1 u2 u3) g T c :=
  (((h.other _ hne _).other _ hne _).other _ hne _).other _ hne _
theorem below_set4 {B : Nat} {w W : World} (h : Below B w W) {b : Nat} (hb : B ≤ b) (u0 u1 u2 u3 : Nat) : Below B w (set4 W b u0 u1 u2 u3) :=
  (((h.setCell (p := ⟨b, 0, none⟩) hb _).setCell (p := ⟨b, 1, none⟩) hb _).setCell (p := ⟨b, 2, none⟩) hb _).setCell (p := ⟨b, 3, none⟩) hb _
theorem own_set4 {W : World} {base b g cap n : Nat} {cs : List Cl} (h : OwnCs W base (.slice (some ⟨g, 0, none⟩) n cap) cs) (hne : g ≠ b) (u0 u1 u2 u3 : Nat) : OwnCs (set4 W b u0 u1 u2 u3) base (.slice (some ⟨g, 0, none⟩) n cap) cs := by
  have hn : ∀ j : Nat, (Value.slice (some ⟨g, 0, none⟩) n cap).ownBlock ≠ some (⟨b, j, none⟩ : Addr).block := fun j e => hne (by simpa [Value.ownBlock] using e)
  exact ownsRow_setCell_other (ownsRow_setCell_other (ownsRow_setCell_other (ownsRow_setCell_other h (hn 0) _) (hn 1) _) (hn 2) _) (hn 3) _
theorem PW.set {w W : World} {b5 ga ca : Nat} {acc acc' : Cl} {ts : List Cl} (h : PW w W b5 ga ca acc ts) {u0 u1 u2 u3 : Nat} (e : acc'.1 = [u0, u1, u2, u3]) : PW w (set4 W b5 u0 u1 u2 u3) b5 ga ca acc' ts :=
  ⟨own_set4 h.ow h.ne _ _ _ _, by rw [e]; exact h.a5.set4 _ _ _ _, below_set4 h.bel h.h5 _ _ _ _, h.h5, h.ne⟩

theorem PW.box {w W : World} {b5 ga ca b : Nat} {acc d d' : Cl} {ts : List Cl} (h : PW w W b5 ga ca acc ts) (a : Arr64 W b 24 d.1) (h1 : ga < b) (h2 : b5 < b) (h3 : w.heap.size ≤ b) {u0 u1 u2 u3 : Nat} (e : d'.1 = [u0, u1, u2, u3]) :
    PW w (set4 W b u0 u1 u2 u3) b5 ga ca acc ts ∧ Arr64 (set4 W b u0 u1 u2 u3) b 24 d'.1 :=
  ⟨⟨own_set4 h.ow (by omega) _ _ _ _, h.a5.set4_other (by omega) _ _ _ _, below_set4 h.bel h3 _ _ _ _, h.h5, h.ne⟩, by rw [e]; exact a.set4 _ _ _ _⟩

set_option maxHeartbeats 8000000 in
set_option maxRecDepth 100000 in
theorem parts_main (w : World) (a0 : Option Addr) (n c0 : Nat) (l : List Cl) (h : CC w (.slice a0 n c0) l) (hn : n ≤ 65536) :
    Calls Try.prog 9 #[.slice a0 n c0] w fun e w' => e = .returned (.bool true) ∧ Below w.heap.size w w' := by
  have HL := Lib.hid h.len
  have hgu0 := fun w op x y xs ys => run_guardTC w op x y xs ys
  have HGU := Lib.hid hgu0
  have hrz : row64 noneL = #[.int .u64 0, .int .u64 0, .int .u64 0, .int .u64 0] := rfl
  have HRZ := Lib.hid hrz
  clear hgu0 hrz
  go_enter Try.func9, Try.ntmps9
  go_wp2_with fail
  refine (works_any _).mono ?_
  rintro e w1 ⟨rfl, hb1⟩
  go_wp2_with fail
  refine (atoms_any _ _ l (h.below hb1) (by rw [HL.out]; omega)).mono ?_
  rintro e w2 ⟨va, ts, rfl, hp, -, hoa, hbA⟩
  have HAT := Lib.hid (atom_perm hp)
  have hfew := HAT.out.part.few
  have hpos := HAT.out.part.pos
  obtain ⟨ga, ca, rfl⟩ : ∃ g cap, va = .slice (some ⟨g, 0, none⟩) ts.length cap := by
    rcases hoa.2 with ⟨_, h0⟩ | ⟨g, cap, _, e, _⟩
    · omega
    · exact ⟨g, cap, e⟩
  have hb2 := hb1.trans (hbA.mono hb1.size)
  have hglt := (World.ownsRow.lt hoa ga rfl).2
  have hbz := (Below.refl w2.heap.size w2).alloc (Nat.le_refl _) (.cells #[.int .u64 0, .int .u64 0, .int .u64 0, .int .u64 0] 24)
  have hPW : PW w (w2.alloc (.cells #[.int .u64 0, .int .u64 0, .int .u64 0, .int .u64 0] 24)) w2.heap.size ga ca (accU ts 0) ts :=
    ⟨(hoa.mono hb1.size).below hbz, Arr64.new w2 _ noneL, hb2.trans (hbz.mono hb2.size), hb2.size, by omega⟩
  obtain ⟨m, hm⟩ : ∃ m, ts.length = m := ⟨_, rfl⟩
  have HM := Lib.hid hm
  rw [hm] at hfew hpos
  clear hp hoa hbA hb1 hb2 hglt hbz
  go_upto_region 6 with fail
  generalize w2.heap.size = b5 at hPW ⊢
  generalize w2.alloc (.cells #[.int .u64 0, .int .u64 0, .int .u64 0, .int .u64 0] 24) = W3 at hPW ⊢
  clear hm
  go_wp2_with fail
  go_loopw [6] (fun v6 wr => ∃ i : Nat, i ≤ m ∧ v6 = .int .i64 i ∧ PW w wr b5 ga ca (accU ts i) ts) (fun v6 _ => m - (intOf v6).toNat)
  case atStart => exact ⟨0, by omega, rfl, hPW⟩
  case round =>
    clear hPW
    obtain ⟨i, hi, rfl, hW⟩ := hrel
    by_cases hlt : i < m
    · have hil : i < ts.length := by rw [HM.out]; exact hlt
      have hap := HAT.out.apart i hil
      have hno := HAT.out.none i hil
      have hnx := accU_next ts i hil
      obtain ⟨p0, p1, p2, p3, hp⟩ := isC_words ts[i].1 ts[i].2
      obtain ⟨q0, q1, q2, q3, hq⟩ := isC_words (accU ts i).1 (accU ts i).2
      obtain ⟨u0, u1, u2, u3, hu⟩ := isC_words (orL (accU ts i).1 ts[i].1) (isC_or _ _ (accU ts i).2 ts[i].2)
      have hrp : row64 ts[i].1 = #[.int .u64 (p0 : Int), .int .u64 (p1 : Int), .int .u64 (p2 : Int), .int .u64 (p3 : Int)] := by rw [hp]; rfl
      have hrq : row64 (accU ts i).1 = #[.int .u64 (q0 : Int), .int .u64 (q1 : Int), .int .u64 (q2 : Int), .int .u64 (q3 : Int)] := by rw [hq]; rfl
      have hru : row64 (orL (accU ts i).1 ts[i].1) = #[.int .u64 (u0 : Int), .int .u64 (u1 : Int), .int .u64 (u2 : Int), .int .u64 (u3 : Int)] := by rw [hu]; rfl
      have hand := fun W => and_any W (accU ts i).1 ts[i].1 (accU ts i).2 ts[i].2
      have hor := fun W => or_any W (accU ts i).1 ts[i].1 (accU ts i).2 ts[i].2
      have e1 := fun W => run_eql_rowC W ts[i].1 noneL ts[i].2.1 rfl
      have e2 := fun W => run_neq_rowC W noneL noneL rfl rfl
      rw [hap, hrp, hrq, HRZ.out] at hand
      rw [hrp, hrq, hru] at hor
      rw [decide_eq_false hno, hrp, HRZ.out] at e1
      rw [decide_eq_true rfl, Bool.not_true, HRZ.out] at e2
      obtain ⟨y0, y1, y2, y3⟩ := own_words hW.ow i hil p0 p1 p2 p3 hp
      obtain ⟨z0, z1, z2, z3⟩ := hW.a5.four hq
      have hB := hW.bel
      have HAND := Lib.hid hand
      have HOR := Lib.hid hor
      have HP := Lib.hid hp
      have HQ := Lib.hid hq
      have HU := Lib.hid (show (accU ts (i + 1)).1 = [u0, u1, u2, u3] by rw [hnx]; exact hu)
      have hgu := HGU.out
      have HW := Lib.hid hW
      clear hap hno hnx hp hq hu hrp hrq hru hand hor hW
      go_wp2_with fail
      have hWd := HW.out.below (Below.refl _ _).drew
      go_region_held3 (fun w' => (w'.cell? ⟨ga, i * 4, none⟩ = some (.int .u64 (p0 : Int)) ∧ w'.cell? ⟨ga, i * 4 + 1, none⟩ = some (.int .u64 (p1 : Int)) ∧ w'.cell? ⟨ga, i * 4 + 2, none⟩ = some (.int .u64 (p2 : Int)) ∧ w'.cell? ⟨ga, i * 4 + 3, none⟩ = some (.int .u64 (p3 : Int))) ∧ (w'.cell? ⟨b5, 0, none⟩ = some (.int .u64 (q0 : Int)) ∧ w'.cell? ⟨b5, 1, none⟩ = some (.int .u64 (q1 : Int)) ∧ w'.cell? ⟨b5, 2, none⟩ = some (.int .u64 (q2 : Int)) ∧ w'.cell? ⟨b5, 3, none⟩ = some (.int .u64 (q3 : Int))) ∧ Below w.heap.size w w')
        (first | exact ⟨⟨y0, y1, y2, y3⟩, ⟨z0, z1, z2, z3⟩, hB.drew⟩ | assumption | exact keepN2 (by assumption) (by assumption))
        (first | (go_at_call 15; (with_reducible refine (HAND.out _).mono ?_); rintro e w' ⟨rfl, hb'⟩; have hWd := hWd.below hb'))
      rename_i hHx
      clear hHx y0 y1 y2 y3 z0 z1 z2 z3 hB hgu hb' HAND e1 e2 HW
      have HWD := Lib.hid hWd
      clear hWd
      rename_i wb _ _ _
      go_upto_region 11 with fail
      go_cut [] (fun wx => PW w wx b5 ga ca (accU ts (i + 1)) ts)
      case first =>
        have hWe := HWD.out.below (Below.refl _ _).drew
        obtain ⟨y0, y1, y2, y3⟩ := own_words hWe.ow i hil p0 p1 p2 p3 HP.out
        obtain ⟨z0, z1, z2, z3⟩ := hWe.a5.four HQ.out
        go_region_with (first | (go_at_call 13; (with_reducible refine (HOR.out _).mono ?_); rintro e w9 ⟨rfl, hb9⟩; have hWf := hWe.below hb9; have g0 := hWf.a5.frozen 0; have g1 := hWf.a5.frozen 1; have g2 := hWf.a5.frozen 2; have g3 := hWf.a5.frozen 3; obtain ⟨v0, v1, v2, v3⟩ := hWf.a5.four HQ.out))
        all_goals
          have hn := Lib.hid (hWf.set HU.out)
          clear hWf hb9 g0 g1 g2 g3 v0 v1 v2 v3 y0 y1 y2 y3 z0 z1 z2 z3 hWe
          go_wp2_with fail
          go_meet
          case rel => exact hn.out
      case rest =>
        clear HWD HP HQ HU HOR
        have hW := hcut
        clear hcut
        go_wp2_with fail
        go_loopw [7] (fun v7 wr2 => ∃ k : Nat, k ≤ i ∧ v7 = .int .i64 k ∧ PW w wr2 b5 ga ca (accU ts (i + 1)) ts) (fun v7 _ => i - (intOf v7).toNat)
        case atStart => exact ⟨0, by omega, rfl, hW⟩
        case round =>
          clear hW
          obtain ⟨k, hk, rfl, hW⟩ := hrel
          by_cases hki : k < i
          · have hkl : k < ts.length := by omega
            have HTL := Lib.hid (HAT.out.told k i hki hil)
            go_wp2_with fail
            go_loopw [8, 9] (fun v8 v9 wr3 => ∃ (j : Nat) (t : Bool), j ≤ n ∧ v9 = .int .i64 j ∧ v8 = .bool t ∧ (t = false → SameTo l ts[i] ts[k] j) ∧ PW w wr3 b5 ga ca (accU ts (i + 1)) ts) (fun _ v9 _ => n - (intOf v9).toNat)
            case atStart => exact ⟨0, false, by omega, rfl, rfl, fun _ i' _ h0 => by omega, hW⟩
            case round =>
              clear hW
              obtain ⟨j, t, hj, rfl, rfl, hs, hW⟩ := hrel
              have HSM := Lib.hid hs
              clear hs
              cases t
              · by_cases hjn : j < n
                · have hjl : j < l.length := by rw [HL.out]; exact hjn
                  obtain ⟨bl, ol, rfl, hw⟩ := (h.below hW.bel).words j hjl
                  obtain ⟨p0, p1, p2, p3, hp⟩ := isC_words l[j].1 l[j].2
                  obtain ⟨q0, q1, q2, q3, hq⟩ := isC_words ts[i].1 ts[i].2
                  obtain ⟨r0, r1, r2, r3, hr⟩ := isC_words ts[k].1 ts[k].2
                  have hrp : row64 l[j].1 = #[.int .u64 (p0 : Int), .int .u64 (p1 : Int), .int .u64 (p2 : Int), .int .u64 (p3 : Int)] := by rw [hp]; rfl
                  have hrq : row64 ts[i].1 = #[.int .u64 (q0 : Int), .int .u64 (q1 : Int), .int .u64 (q2 : Int), .int .u64 (q3 : Int)] := by rw [hq]; rfl
                  have hrr : row64 ts[k].1 = #[.int .u64 (r0 : Int), .int .u64 (r1 : Int), .int .u64 (r2 : Int), .int .u64 (r3 : Int)] := by rw [hr]; rfl
                  have hA1 := fun W => and_any W l[j].1 ts[i].1 l[j].2 ts[i].2
                  have hA2 := fun W => and_any W l[j].1 ts[k].1 l[j].2 ts[k].2
                  have e1 := fun W => run_eql_rowC W (andL l[j].1 ts[i].1) noneL (isC_and _ _ l[j].2 ts[i].2).1 rfl
                  have e2 := fun W => run_eql_rowC W (andL l[j].1 ts[k].1) noneL (isC_and _ _ l[j].2 ts[k].2).1 rfl
                  have hd1 : meetB l[j] ts[i] = !decide (andL l[j].1 ts[i].1 = noneL) := rfl
                  have hd2 : meetB l[j] ts[k] = !decide (andL l[j].1 ts[k].1 = noneL) := rfl
                  rw [HRZ.out] at e1 e2
                  rw [hrp, hrq] at hA1
                  rw [hrp, hrr] at hA2
                  generalize row64 (andL l[j].1 ts[i].1) = g1 at hA1 e1
                  generalize row64 (andL l[j].1 ts[k].1) = g2 at hA2 e2
                  generalize decide (andL l[j].1 ts[i].1 = noneL) = d1 at e1 hd1
                  generalize decide (andL l[j].1 ts[k].1 = noneL) = d2 at e2 hd2
                  have hsame : d1 = d2 → SameTo l ts[i] ts[k] (j + 1) := fun e => (HSM.out rfl).next hjl (by rw [hd1, hd2, e])
                  obtain ⟨x0, x1, x2, x3⟩ := hw p0 p1 p2 p3 hp
                  obtain ⟨y0, y1, y2, y3⟩ := own_words hW.ow i hil q0 q1 q2 q3 hq
                  obtain ⟨z0, z1, z2, z3⟩ := own_words hW.ow k hkl r0 r1 r2 r3 hr
                  have hkm : (k : Int) < (m : Int) := by omega
                  have hkm2 : k < m := by omega
                  have hB := hW.bel
                  have HA1 := Lib.hid hA1
                  have HA2 := Lib.hid hA2
                  have HSA := Lib.hid hsame
                  have hWd := hW.below (Below.refl _ _).drew
                  have hgu := HGU.out
                  clear hw hp hq hr hrp hrq hrr hA1 hA2 hd1 hd2 hsame hW
                  cases d1 <;> cases d2
                  all_goals
                    go_wp2_with fail
                    go_region_held3 (fun w' => (w'.cell? ⟨bl, ol + j * 4, none⟩ = some (.int .u64 (p0 : Int)) ∧ w'.cell? ⟨bl, ol + j * 4 + 1, none⟩ = some (.int .u64 (p1 : Int)) ∧ w'.cell? ⟨bl, ol + j * 4 + 2, none⟩ = some (.int .u64 (p2 : Int)) ∧ w'.cell? ⟨bl, ol + j * 4 + 3, none⟩ = some (.int .u64 (p3 : Int))) ∧ (w'.cell? ⟨ga, i * 4, none⟩ = some (.int .u64 (q0 : Int)) ∧ w'.cell? ⟨ga, i * 4 + 1, none⟩ = some (.int .u64 (q1 : Int)) ∧ w'.cell? ⟨ga, i * 4 + 2, none⟩ = some (.int .u64 (q2 : Int)) ∧ w'.cell? ⟨ga, i * 4 + 3, none⟩ = some (.int .u64 (q3 : Int))) ∧ (w'.cell? ⟨ga, k * 4, none⟩ = some (.int .u64 (r0 : Int)) ∧ w'.cell? ⟨ga, k * 4 + 1, none⟩ = some (.int .u64 (r1 : Int)) ∧ w'.cell? ⟨ga, k * 4 + 2, none⟩ = some (.int .u64 (r2 : Int)) ∧ w'.cell? ⟨ga, k * 4 + 3, none⟩ = some (.int .u64 (r3 : Int))) ∧ Below w.heap.size w w')
                      (first | exact ⟨⟨x0, x1, x2, x3⟩, ⟨y0, y1, y2, y3⟩, ⟨z0, z1, z2, z3⟩, hB.drew⟩ | assumption | exact keepN3 (by assumption) (by assumption))
                      (first | (go_at_call 15; (with_reducible refine (HA1.out _).mono ?_); rintro e w' ⟨rfl, hb'⟩; have hWd := hWd.below hb') | (go_at_call 15; (with_reducible refine (HA2.out _).mono ?_); rintro e w' ⟨rfl, hb'⟩; have hWd := hWd.below hb'))
                    rename_i hHx
                    have HW := Lib.hid hWd
                    clear hHx x0 x1 x2 x3 y0 y1 y2 y3 z0 z1 z2 z3 hB hgu hb' e1 e2 hWd
                    go_wp2_with fail
                    go_roundw
                    case rel => exact ⟨j + 1, _, by omega, by go_num, rfl, (fun e => by first | exact HSA.out rfl | exact HSA.out trivial | cases e), HW.out⟩
                    case measure => simp [intOf]; omega
                · exfalso
                  obtain ⟨j2, hj2, hd⟩ := HTL.out
                  exact hd (HSM.out rfl j2 hj2 (by rw [HL.out] at hj2; omega))
              · by_cases hjn : j < n
                all_goals
                  have HW := Lib.hid hW
                  clear hW
                  go_wp2_with fail
                  go_roundw
                  case rel => exact ⟨k + 1, by omega, by go_num, HW.out⟩
                  case measure => simp [intOf]; omega
          · have HW := Lib.hid hW
            clear hW
            go_wp2_with fail
            go_roundw
            case rel => exact ⟨i + 1, by omega, by go_num, HW.out⟩
            case measure => simp [intOf]; omega
    · obtain rfl : i = m := by omega
      clear hlt
      go_wp2_with fail
      go_loopw [10] (fun v10 wr4 => ∃ j : Nat, j ≤ n ∧ v10 = .int .i64 j ∧ PW w wr4 b5 ga ca (accU ts i) ts) (fun v10 _ => n - (intOf v10).toNat)
      case atStart => exact ⟨0, by omega, rfl, hW⟩
      case round =>
        clear hW
        obtain ⟨j, hj, rfl, hW⟩ := hrel
        by_cases hjn : j < n
        · have hjl : j < l.length := by rw [HL.out]; exact hjn
          have hbz := (Below.refl wr.heap.size wr).alloc (Nat.le_refl _) (.cells #[.int .u64 0, .int .u64 0, .int .u64 0, .int .u64 0] 24)
          have hg11 : ga < wr.heap.size := (World.ownsRow.lt hW.ow ga rfl).2
          have hb11 : b5 < wr.heap.size := hW.a5.lt
          have hw11 := hW.bel.size
          have a11 : Arr64 (wr.alloc (.cells #[.int .u64 0, .int .u64 0, .int .u64 0, .int .u64 0] 24)) wr.heap.size 24 (partU l[j] ts 0).1 := Arr64.new wr _ noneL
          have hW := hW.below hbz
          have HPM := Lib.hid (HAT.out.again l[j] (List.getElem_mem hjl))
          rw [HM.out] at HPM
          clear hbz
          go_upto_region 26 with fail
          generalize wr.heap.size = b11 at a11 hg11 hb11 hw11 ⊢
          generalize wr.alloc (.cells #[.int .u64 0, .int .u64 0, .int .u64 0, .int .u64 0] 24) = W4 at a11 hW ⊢
          go_wp2_with fail
          go_loopw [12] (fun v12 wr5 => ∃ k : Nat, k ≤ i ∧ v12 = .int .i64 k ∧ PW w wr5 b5 ga ca (accU ts i) ts ∧ Arr64 wr5 b11 24 (partU l[j] ts k).1) (fun v12 _ => i - (intOf v12).toNat)
          case atStart => exact ⟨0, by omega, rfl, hW, a11⟩
          case round =>
            clear hW a11
            obtain ⟨k, hk, rfl, hW, a11⟩ := hrel
            obtain ⟨bl, ol, rfl, hw⟩ := (h.below hW.bel).words j hjl
            obtain ⟨p0, p1, p2, p3, hp⟩ := isC_words l[j].1 l[j].2
            obtain ⟨x0, x1, x2, x3⟩ := hw p0 p1 p2 p3 hp
            have hrp : row64 l[j].1 = #[.int .u64 (p0 : Int), .int .u64 (p1 : Int), .int .u64 (p2 : Int), .int .u64 (p3 : Int)] := by rw [hp]; rfl
            have HP := Lib.hid hp
            have hB := hW.bel
            clear hw
            by_cases hki : k < i
            · have hkl : k < ts.length := by rw [HM.out]; exact hki
              have hnx := partU_next l[j] ts k hkl
              obtain ⟨q0, q1, q2, q3, hq⟩ := isC_words ts[k].1 ts[k].2
              have hrq : row64 ts[k].1 = #[.int .u64 (q0 : Int), .int .u64 (q1 : Int), .int .u64 (q2 : Int), .int .u64 (q3 : Int)] := by rw [hq]; rfl
              have hA1 := fun W => and_any W l[j].1 ts[k].1 l[j].2 ts[k].2
              have e1 := fun W => run_neq_rowC W (andL l[j].1 ts[k].1) noneL (isC_and _ _ l[j].2 ts[k].2).1 rfl
              have hmt : (!decide (andL l[j].1 ts[k].1 = noneL)) = meetB l[j] ts[k] := rfl
              rw [HRZ.out, hmt] at e1
              rw [hrp, hrq] at hA1
              generalize row64 (andL l[j].1 ts[k].1) = g1 at hA1 e1
              obtain ⟨y0, y1, y2, y3⟩ := own_words hW.ow k hkl q0 q1 q2 q3 hq
              have HA1 := Lib.hid hA1
              have hWd := hW.below (Below.refl _ _).drew
              have a11d := a11.below (Below.refl _ _).drew a11.lt
              have hgu := HGU.out
              have HNX := Lib.hid hnx
              have HQ := Lib.hid hq
              have hkm : (k : Int) < (i : Int) := by omega
              clear hp hq hrp hA1 hW a11 hmt hnx
              cases hmt : meetB l[j] ts[k]
              · rw [hmt] at e1
                have HMT := Lib.hid hmt
                clear hmt hrq
                go_wp2_with fail
                go_region_held3 (fun w' => (w'.cell? ⟨bl, ol + j * 4, none⟩ = some (.int .u64 (p0 : Int)) ∧ w'.cell? ⟨bl, ol + j * 4 + 1, none⟩ = some (.int .u64 (p1 : Int)) ∧ w'.cell? ⟨bl, ol + j * 4 + 2, none⟩ = some (.int .u64 (p2 : Int)) ∧ w'.cell? ⟨bl, ol + j * 4 + 3, none⟩ = some (.int .u64 (p3 : Int))) ∧ (w'.cell? ⟨ga, k * 4, none⟩ = some (.int .u64 (q0 : Int)) ∧ w'.cell? ⟨ga, k * 4 + 1, none⟩ = some (.int .u64 (q1 : Int)) ∧ w'.cell? ⟨ga, k * 4 + 2, none⟩ = some (.int .u64 (q2 : Int)) ∧ w'.cell? ⟨ga, k * 4 + 3, none⟩ = some (.int .u64 (q3 : Int))) ∧ Below w.heap.size w w')
                  (first | exact ⟨⟨x0, x1, x2, x3⟩, ⟨y0, y1, y2, y3⟩, hB.drew⟩ | assumption | exact keepN2 (by assumption) (by assumption))
                  (first | (go_at_call 15; (with_reducible refine (HA1.out _).mono ?_); rintro e w' ⟨rfl, hb'⟩; have hWd := hWd.below hb'; have a11d := a11d.below hb' a11d.lt))
                rename_i hHx
                have HW := Lib.hid hWd
                have HA := Lib.hid a11d
                clear hHx x0 x1 x2 x3 y0 y1 y2 y3 hB hgu hb' e1 hWd a11d
                go_wp2_with fail
                go_roundw
                case rel => exact ⟨k + 1, by omega, by go_num, HW.out, by rw [HNX.out, HMT.out]; exact HA.out⟩
                case measure => simp [intOf]; omega
              · rw [hmt] at e1
                have HMT := Lib.hid hmt
                have hor := fun W => or_any W (partU l[j] ts k).1 ts[k].1 (partU l[j] ts k).2 ts[k].2
                obtain ⟨r0, r1, r2, r3, hr⟩ := isC_words (partU l[j] ts k).1 (partU l[j] ts k).2
                obtain ⟨u0, u1, u2, u3, hu⟩ := isC_words (orL (partU l[j] ts k).1 ts[k].1) (isC_or _ _ (partU l[j] ts k).2 ts[k].2)
                have hrr : row64 (partU l[j] ts k).1 = #[.int .u64 (r0 : Int), .int .u64 (r1 : Int), .int .u64 (r2 : Int), .int .u64 (r3 : Int)] := by rw [hr]; rfl
                have hru : row64 (orL (partU l[j] ts k).1 ts[k].1) = #[.int .u64 (u0 : Int), .int .u64 (u1 : Int), .int .u64 (u2 : Int), .int .u64 (u3 : Int)] := by rw [hu]; rfl
                rw [hrr, hrq, hru] at hor
                have HOR := Lib.hid hor
                have HR := Lib.hid hr
                have HU := Lib.hid (show (partU l[j] ts (k + 1)).1 = [u0, u1, u2, u3] by rw [HNX.out, hmt]; exact hu)
                clear hmt hrq hor hr hu hrr hru
                go_wp2_with fail
                go_region_held3 (fun w' => (w'.cell? ⟨bl, ol + j * 4, none⟩ = some (.int .u64 (p0 : Int)) ∧ w'.cell? ⟨bl, ol + j * 4 + 1, none⟩ = some (.int .u64 (p1 : Int)) ∧ w'.cell? ⟨bl, ol + j * 4 + 2, none⟩ = some (.int .u64 (p2 : Int)) ∧ w'.cell? ⟨bl, ol + j * 4 + 3, none⟩ = some (.int .u64 (p3 : Int))) ∧ (w'.cell? ⟨ga, k * 4, none⟩ = some (.int .u64 (q0 : Int)) ∧ w'.cell? ⟨ga, k * 4 + 1, none⟩ = some (.int .u64 (q1 : Int)) ∧ w'.cell? ⟨ga, k * 4 + 2, none⟩ = some (.int .u64 (q2 : Int)) ∧ w'.cell? ⟨ga, k * 4 + 3, none⟩ = some (.int .u64 (q3 : Int))) ∧ Below w.heap.size w w')
                  (first | exact ⟨⟨x0, x1, x2, x3⟩, ⟨y0, y1, y2, y3⟩, hB.drew⟩ | assumption | exact keepN2 (by assumption) (by assumption))
                  (first | (go_at_call 15; (with_reducible refine (HA1.out _).mono ?_); rintro e w' ⟨rfl, hb'⟩; have hWd := hWd.below hb'; have a11d := a11d.below hb' a11d.lt))
                rename_i hHx
                have HW := Lib.hid hWd
                have HA := Lib.hid a11d
                clear hHx x0 x1 x2 x3 y0 y1 y2 y3 hB hgu hb' e1 hWd a11d
                go_upto_region 30 with fail
                have hWe := HW.out.below (Below.refl _ _).drew
                have a11e := HA.out.below (Below.refl _ _).drew HA.out.lt
                obtain ⟨y0, y1, y2, y3⟩ := own_words hWe.ow k hkl q0 q1 q2 q3 HQ.out
                obtain ⟨z0, z1, z2, z3⟩ := a11e.four HR.out
                go_region_with (first | (go_at_call 13; (with_reducible refine (HOR.out _).mono ?_); rintro e w9 ⟨rfl, hb9⟩; have hWf := hWe.below hb9; have a11f := a11e.below hb9 a11e.lt; have g0 := a11f.frozen 0; have g1' := a11f.frozen 1; have g2 := a11f.frozen 2; have g3 := a11f.frozen 3; obtain ⟨v0, v1, v2, v3⟩ := a11f.four HR.out))
                all_goals
                  have HC := Lib.hid (hWf.box a11f (by omega) (by omega) (by omega) HU.out)
                  clear hWf a11f hb9 g0 g1' g2 g3 v0 v1 v2 v3 y0 y1 y2 y3 z0 z1 z2 z3 hWe a11e HW HA
                  go_wp2_with fail
                  go_roundw
                  case rel => exact ⟨k + 1, by omega, by go_num, HC.out.1, HC.out.2⟩
                  case measure => simp [intOf]; omega
            · obtain rfl : k = i := by omega
              rw [HPM.out] at a11
              obtain ⟨z0, z1, z2, z3⟩ := a11.four hp
              have e1 := fun W => run_neq_rowC W l[j].1 l[j].1 l[j].2.1 l[j].2.1
              rw [decide_eq_true rfl, Bool.not_true, hrp] at e1
              have hgu := HGU.out
              have HW := Lib.hid hW
              clear hp hrp hW a11
              go_wp2_with fail
              go_quiet (fail)
              rename_i nq
              have HW2 := Lib.hid (HW.out.below (below_drewN (Below.refl _ _) nq))
              clear e1 hgu x0 x1 x2 x3 z0 z1 z2 z3 hB HW
              go_wp2_with fail
              go_roundw
              case rel => exact ⟨j + 1, by omega, by go_num, HW2.out⟩
              case measure => simp [intOf]; omega
        · have hwh := HAT.out.whole
          rw [HM.out] at hwh
          obtain ⟨p0, p1, p2, p3, hp⟩ := isC_words (rangeL 0 255) (isC_fromL _ _)
          have hrp : row64 (rangeL 0 255) = #[.int .u64 (p0 : Int), .int .u64 (p1 : Int), .int .u64 (p2 : Int), .int .u64 (p3 : Int)] := by rw [hp]; rfl
          have a5 := hW.a5
          rw [hwh] at a5
          obtain ⟨z0, z1, z2, z3⟩ := a5.four hp
          have hra := fun W => range_any W 0 255 (by omega) (by omega)
          have e1 := fun W => run_eql_rowC W (rangeL 0 255) (rangeL 0 255) (isC_fromL _ _).1 (isC_fromL _ _).1
          rw [hrp] at hra
          rw [decide_eq_true rfl, hrp] at e1
          have hra : ∀ W, Calls Try.prog 29 #[.int .u8 0, .int .u8 255] W fun e w' => e = .returned (.agg #[.int .u64 (p0 : Int), .int .u64 (p1 : Int), .int .u64 (p2 : Int), .int .u64 (p3 : Int)]) ∧ Below W.heap.size W w' := hra
          have HRA := Lib.hid hra
          have hgu := HGU.out
          have hB := hW.bel
          clear hra hwh hp hrp a5 hW
          go_wp2_with fail
          go_region_held3 (fun w' => (w'.cell? ⟨b5, 0, none⟩ = some (.int .u64 (p0 : Int)) ∧ w'.cell? ⟨b5, 1, none⟩ = some (.int .u64 (p1 : Int)) ∧ w'.cell? ⟨b5, 2, none⟩ = some (.int .u64 (p2 : Int)) ∧ w'.cell? ⟨b5, 3, none⟩ = some (.int .u64 (p3 : Int))) ∧ Below w.heap.size w w')
            (first | exact ⟨⟨z0, z1, z2, z3⟩, hB.drew⟩ | assumption | exact keepN1 (by assumption) (by assumption))
            (first | (go_at_call 29; (with_reducible refine (HRA.out _).mono ?_); rintro e w' ⟨rfl, hb'⟩))
          rename_i hHx
          have hfin := hHx.2
          clear hHx z0 z1 z2 z3 hB hgu hb' e1
          go_wp2_with fail
          go_ret
          exact ⟨rfl, hfin⟩
end Go.Proofs.Ytcdoliinemafaaa
