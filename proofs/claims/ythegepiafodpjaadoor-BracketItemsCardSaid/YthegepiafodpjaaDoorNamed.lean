/-
  class.Named: the bytes of a name.
-/
import Derived.Test.YthegepiafodpjaaDoorOf
import Derived.Test.YthegepiafodpjaaDoorEqC
import Derived.Deep.DeepCutAuto
import Derived.Deep.MidRow
import Derived.Lib.SlicesS
import Derived.StillTailTactics
import Derived.Deep.RegionHeld3
import Derived.Deep.RegionLaw
namespace Go.Proofs.YthegepiafodpjaaDoor
open Go.RowKit

def nmS (k : Nat) : ByteArray := match k with | 0 => ⟨#[117, 112, 112, 101, 114]⟩ | 1 => ⟨#[108, 111, 119, 101, 114]⟩ | 2 => ⟨#[97, 108, 112, 104, 97]⟩ | 3 => ⟨#[97, 108, 112, 104, 97]⟩ | 4 => ⟨#[100, 105, 103, 105, 116]⟩ | 5 => ⟨#[97, 108, 110, 117, 109]⟩ | 6 => ⟨#[97, 108, 110, 117, 109]⟩ | 7 => ⟨#[97, 108, 110, 117, 109]⟩ | 8 => ⟨#[120, 100, 105, 103, 105, 116]⟩ | 9 => ⟨#[120, 100, 105, 103, 105, 116]⟩ | 10 => ⟨#[120, 100, 105, 103, 105, 116]⟩ | 11 => ⟨#[98, 108, 97, 110, 107]⟩ | 12 => ⟨#[98, 108, 97, 110, 107]⟩ | 13 => ⟨#[115, 112, 97, 99, 101]⟩ | 14 => ⟨#[115, 112, 97, 99, 101]⟩ | 15 => ⟨#[99, 110, 116, 114, 108]⟩ | 16 => ⟨#[99, 110, 116, 114, 108]⟩ | 17 => ⟨#[103, 114, 97, 112, 104]⟩ | 18 => ⟨#[112, 114, 105, 110, 116]⟩ | 19 => ⟨#[112, 117, 110, 99, 116]⟩ | 20 => ⟨#[112, 117, 110, 99, 116]⟩ | 21 => ⟨#[112, 117, 110, 99, 116]⟩ | 22 => ⟨#[112, 117, 110, 99, 116]⟩ | _ => ⟨#[]⟩
def nmLo (k : Nat) : Nat := match k with | 0 => 65 | 1 => 97 | 2 => 65 | 3 => 97 | 4 => 48 | 5 => 48 | 6 => 65 | 7 => 97 | 8 => 48 | 9 => 65 | 10 => 97 | 11 => 9 | 12 => 32 | 13 => 9 | 14 => 32 | 15 => 0 | 16 => 127 | 17 => 33 | 18 => 32 | 19 => 33 | 20 => 58 | 21 => 91 | 22 => 123 | _ => 0
def nmHi (k : Nat) : Nat := match k with | 0 => 90 | 1 => 122 | 2 => 90 | 3 => 122 | 4 => 57 | 5 => 57 | 6 => 90 | 7 => 122 | 8 => 57 | 9 => 70 | 10 => 102 | 11 => 9 | 12 => 32 | 13 => 13 | 14 => 32 | 15 => 31 | 16 => 127 | 17 => 126 | 18 => 126 | 19 => 47 | 20 => 64 | 21 => 96 | 22 => 126 | _ => 0
def nmRow : Array Value := #[.string ⟨#[117, 112, 112, 101, 114]⟩, .int .u8 65, .int .u8 90, .string ⟨#[108, 111, 119, 101, 114]⟩, .int .u8 97, .int .u8 122, .string ⟨#[97, 108, 112, 104, 97]⟩, .int .u8 65, .int .u8 90, .string ⟨#[97, 108, 112, 104, 97]⟩, .int .u8 97, .int .u8 122, .string ⟨#[100, 105, 103, 105, 116]⟩, .int .u8 48, .int .u8 57, .string ⟨#[97, 108, 110, 117, 109]⟩, .int .u8 48, .int .u8 57, .string ⟨#[97, 108, 110, 117, 109]⟩, .int .u8 65, .int .u8 90, .string ⟨#[97, 108, 110, 117, 109]⟩, .int .u8 97, .int .u8 122, .string ⟨#[120, 100, 105, 103, 105, 116]⟩, .int .u8 48, .int .u8 57, .string ⟨#[120, 100, 105, 103, 105, 116]⟩, .int .u8 65, .int .u8 70, .string ⟨#[120, 100, 105, 103, 105, 116]⟩, .int .u8 97, .int .u8 102, .string ⟨#[98, 108, 97, 110, 107]⟩, .int .u8 9, .int .u8 9, .string ⟨#[98, 108, 97, 110, 107]⟩, .int .u8 32, .int .u8 32, .string ⟨#[115, 112, 97, 99, 101]⟩, .int .u8 9, .int .u8 13, .string ⟨#[115, 112, 97, 99, 101]⟩, .int .u8 32, .int .u8 32, .string ⟨#[99, 110, 116, 114, 108]⟩, .int .u8 0, .int .u8 31, .string ⟨#[99, 110, 116, 114, 108]⟩, .int .u8 127, .int .u8 127, .string ⟨#[103, 114, 97, 112, 104]⟩, .int .u8 33, .int .u8 126, .string ⟨#[112, 114, 105, 110, 116]⟩, .int .u8 32, .int .u8 126, .string ⟨#[112, 117, 110, 99, 116]⟩, .int .u8 33, .int .u8 47, .string ⟨#[112, 117, 110, 99, 116]⟩, .int .u8 58, .int .u8 64, .string ⟨#[112, 117, 110, 99, 116]⟩, .int .u8 91, .int .u8 96, .string ⟨#[112, 117, 110, 99, 116]⟩, .int .u8 123, .int .u8 126]
/-- The table of names lies in memory. -/
def NamW (w : World) : Prop := w.rangeAt 0 0 nmRow.toList
theorem NamW.lt {w : World} (h : NamW w) : 0 < w.heap.size := World.block_lt_of_cell? w _ (h 1 (.int .u8 65) rfl)
theorem NamW.below {w w' : World} (h : NamW w) {B : Nat} (hb : Below B w w') (hB : w.heap.size ≤ B) : NamW w' := fun j v hv => by
  rw [hb.cell (p := ⟨0, 0 + j, none⟩) (Nat.lt_of_lt_of_le h.lt hB)]; exact h j v hv
set_option maxRecDepth 10000 in
theorem index_nm (w : World) (k : Nat) (hk : k < 23) : (Instr.index 102 (.agg nmRow.toList.toArray) (.int .i64 (k : Int))).run Tryd.prog w = .ok (.agg #[.string (nmS k), .int .u8 (nmLo k : Nat), .int .u8 (nmHi k : Nat)]) w := by
  have h : k = 0 ∨ k = 1 ∨ k = 2 ∨ k = 3 ∨ k = 4 ∨ k = 5 ∨ k = 6 ∨ k = 7 ∨ k = 8 ∨ k = 9 ∨ k = 10 ∨ k = 11 ∨ k = 12 ∨ k = 13 ∨ k = 14 ∨ k = 15 ∨ k = 16 ∨ k = 17 ∨ k = 18 ∨ k = 19 ∨ k = 20 ∨ k = 21 ∨ k = 22 := by omega
  rcases h with rfl | rfl | rfl | rfl | rfl | rfl | rfl | rfl | rfl | rfl | rfl | rfl | rfl | rfl | rfl | rfl | rfl | rfl | rfl | rfl | rfl | rfl | rfl
  all_goals (show Sem.run _ _ _ = _; kernel_rfl)
theorem nm_ok (k : Nat) : nmLo k < 256 ∧ nmHi k < 256 := by
  unfold nmLo nmHi
  split <;> omega
/-- The class of a name, by the first k rows. -/
def namedU (s : ByteArray) : Nat → List Nat
  | 0 => noneL
  | k + 1 => if nmS k = s then orL (namedU s k) (rangeL (nmLo k) (nmHi k)) else namedU s k
def namedL (s : ByteArray) : List Nat := namedU s 23
theorem isC_named (s : ByteArray) (k : Nat) : IsC (namedU s k) := by
  induction k with
  | zero => exact isC_none
  | succ k ih => unfold namedU; split; exact isC_or _ _ ih (isC_fromL _ _); exact ih

/-- Four words are stored into a box. -/
theorem setw {w W : World} {acc acc' : List Nat} {u0 u1 u2 u3 : Nat} (hc : IsC acc) (h : Arr64 W (w.heap.size + 1) 28 acc) (hr : Arr64 W w.heap.size 28 noneL) (hb : Below w.heap.size w W) (e : acc' = [u0, u1, u2, u3]) :
    Arr64 ((((W.setCell ⟨w.heap.size + 1, 0, none⟩ (.int .u64 (u0 : Int))).setCell ⟨w.heap.size + 1, 1, none⟩ (.int .u64 (u1 : Int))).setCell ⟨w.heap.size + 1, 2, none⟩ (.int .u64 (u2 : Int))).setCell ⟨w.heap.size + 1, 3, none⟩ (.int .u64 (u3 : Int))) w.heap.size 28 noneL ∧
    Arr64 ((((W.setCell ⟨w.heap.size + 1, 0, none⟩ (.int .u64 (u0 : Int))).setCell ⟨w.heap.size + 1, 1, none⟩ (.int .u64 (u1 : Int))).setCell ⟨w.heap.size + 1, 2, none⟩ (.int .u64 (u2 : Int))).setCell ⟨w.heap.size + 1, 3, none⟩ (.int .u64 (u3 : Int))) (w.heap.size + 1) 28 acc' ∧
    Below w.heap.size w ((((W.setCell ⟨w.heap.size + 1, 0, none⟩ (.int .u64 (u0 : Int))).setCell ⟨w.heap.size + 1, 1, none⟩ (.int .u64 (u1 : Int))).setCell ⟨w.heap.size + 1, 2, none⟩ (.int .u64 (u2 : Int))).setCell ⟨w.heap.size + 1, 3, none⟩ (.int .u64 (u3 : Int))) := by
  obtain ⟨p0, p1, p2, p3, hp⟩ := isC_words acc hc
  rw [hp] at h
  refine ⟨(((hr.other _ (by simp) _).other _ (by simp) _).other _ (by simp) _).other _ (by simp) _, by rw [e]; exact (((h.set 0 u0).set 1 u1).set 2 u2).set 3 u3, ?_⟩
  exact (((hb.setCell (by simp) _).setCell (by simp) _).setCell (by simp) _).setCell (by simp) _
/-- A result in cells, and one in a slot. -/
theorem results_cell_tmp {P : Program} {fn : Func} {p q : Tmp} {ty : TypeId} (h : fn.results = #[.cell p ty, .tmp q]) (tmps : Array Value) (w : World) (g : Nat) (t : TypeId) (cs : Array Value) (fr : Nat × Nat) (d : TypeDesc)
    (hp : tmps.getD p undef = .pointer (some ⟨g, 0, none⟩)) (hg : w.heap[g]? = some (.cells cs t fr))
    (hu : P.underlying ty = some d) (hd : (match d with | .struct _ | .array _ _ => true | _ => false) = true) (hi : (P.info? ty).map (·.size) = some cs.size) :
    (results fn tmps).run P w = .ok (.tuple #[.agg cs, tmps.getD q undef]) w := by
  have hp' : tmps[p]?.getD undef = .pointer (some ⟨g, 0, none⟩) := by simpa using hp
  simp [results, h, hp', asAddr, run_loadVar_row w g t ty cs fr d hg hu hd hi]
def NamedPost (w : World) (s : ByteArray) (e : Ending) (w' : World) : Prop := e = .returned (.tuple #[.agg (row64 (namedL s)), .bool (!decide (namedL s = noneL))]) ∧ Below w.heap.size w w'

theorem named_ret {w w' : World} {s : ByteArray} {q0 q1 q2 q3 : Nat} (hq : namedL s = [q0, q1, q2, q3]) (hb : Below w.heap.size w w') : NamedPost w s (.returned (.tuple #[.agg (row64 [q0, q1, q2, q3]), .bool (!decide ([q0, q1, q2, q3] = noneL))])) w' := by
  rw [← hq]; exact ⟨rfl, hb⟩
theorem setr {w W : World} (hr : Arr64 W w.heap.size 28 noneL) (hb : Below w.heap.size w W) (u0 u1 u2 u3 : Nat) :
    Arr64 ((((W.setCell ⟨w.heap.size, 0, none⟩ (.int .u64 (u0 : Int))).setCell ⟨w.heap.size, 1, none⟩ (.int .u64 (u1 : Int))).setCell ⟨w.heap.size, 2, none⟩ (.int .u64 (u2 : Int))).setCell ⟨w.heap.size, 3, none⟩ (.int .u64 (u3 : Int))) w.heap.size 28 [u0, u1, u2, u3] ∧
    Below w.heap.size w ((((W.setCell ⟨w.heap.size, 0, none⟩ (.int .u64 (u0 : Int))).setCell ⟨w.heap.size, 1, none⟩ (.int .u64 (u1 : Int))).setCell ⟨w.heap.size, 2, none⟩ (.int .u64 (u2 : Int))).setCell ⟨w.heap.size, 3, none⟩ (.int .u64 (u3 : Int))) :=
  ⟨(((Arr64.set (l := [0, 0, 0, 0]) hr 0 u0).set 1 u1).set 2 u2).set 3 u3, (((hb.setCell (by simp) _).setCell (by simp) _).setCell (by simp) _).setCell (by simp) _⟩
set_option maxHeartbeats 8000000 in
set_option maxRecDepth 100000 in
theorem named_any (w : World) (s : ByteArray) (_hs : s.size ≤ 9223372036854775807) (hN : NamW w) : Calls Tryd.prog 26 #[.string s] w (NamedPost w s) := by
  have hrz : row64 noneL = #[.int .u64 0, .int .u64 0, .int .u64 0, .int .u64 0] := rfl
  have b0 : Arr64 ((w.alloc (.cells #[.int .u64 0, .int .u64 0, .int .u64 0, .int .u64 0] 28)).alloc (.cells #[.int .u64 0, .int .u64 0, .int .u64 0, .int .u64 0] 28)) w.heap.size 28 noneL := Arr64.alloc (l := noneL) (heap_alloc_new w _) _
  have b1 : Arr64 ((w.alloc (.cells #[.int .u64 0, .int .u64 0, .int .u64 0, .int .u64 0] 28)).alloc (.cells #[.int .u64 0, .int .u64 0, .int .u64 0, .int .u64 0] 28)) (w.heap.size + 1) 28 (namedU s 0) := heap_alloc2 w _ _
  have hb0 := below_alloc2 w (.cells #[.int .u64 0, .int .u64 0, .int .u64 0, .int .u64 0] 28) (.cells #[.int .u64 0, .int .u64 0, .int .u64 0, .int .u64 0] 28)
  have hN2 := hN.below hb0 (Nat.le_refl _)
  have HRZ := Lib.hid hrz
  have HN2 := Lib.hid hN2
  clear hN hN2 hrz
  go_enter Tryd.func26, Tryd.ntmps26
  go_wp2_with (refine wpList_load_mid rfl 102 _ rfl 0 0 rfl nmRow.toList _ HN2.out Tryd.underlying102 rfl (by kernel_rfl) ?_)
  go_loopw [8] (fun i wr => ∃ k : Nat, k ≤ 23 ∧ i = .int .i64 k ∧ Arr64 wr w.heap.size 28 noneL ∧ Arr64 wr (w.heap.size + 1) 28 (namedU s k) ∧ Below w.heap.size w wr) (fun i _ => 23 - (intOf i).toNat)
  case atStart => exact ⟨0, by omega, rfl, b0, b1, hb0⟩
  case round =>
    clear b0 b1 hb0
    obtain ⟨k, hk, rfl, ar, ac, rb⟩ := hrel
    have hbs := rb.size
    by_cases hlt : k < 23
    · have hix := fun W => index_nm W k hlt
      obtain ⟨hlo, hhi⟩ := nm_ok k
      have hst : namedU s (k + 1) = if nmS k = s then orL (namedU s k) (rangeL (nmLo k) (nmHi k)) else namedU s k := rfl
      generalize nmS k = y at hix hst
      generalize nmLo k = lo at hix hst hlo
      generalize nmHi k = hi at hix hst hhi
      have hba := (Below.refl wr.heap.size wr).alloc (Nat.le_refl _) (.cells #[.string y, .int .u8 (lo : Int), .int .u8 (hi : Int)] 101)
      by_cases he : y = s
      · have he2 : (y.toList == s.toList) = true := (Lib.bytes_beq_iff y s).2 he
        rw [if_pos he] at hst
        have HST := Lib.hid hst
        have arh := ar.below hba ar.lt
        have ach := ac.below hba ac.lt
        have rbh := rb.trans (hba.mono hbs)
        have x1 : (wr.alloc (.cells #[.string y, .int .u8 (lo : Int), .int .u8 (hi : Int)] 101)).cell? ⟨wr.heap.size, 1, none⟩ = some (.int .u8 (lo : Int)) := by rw [cell_of_row _ wr.heap.size 1 _ _ (0, 0) (heap_alloc_new wr _)]; rfl
        have x2 : (wr.alloc (.cells #[.string y, .int .u8 (lo : Int), .int .u8 (hi : Int)] 101)).cell? ⟨wr.heap.size, 2, none⟩ = some (.int .u8 (hi : Int)) := by rw [cell_of_row _ wr.heap.size 2 _ _ (0, 0) (heap_alloc_new wr _)]; rfl
        clear he hst ar ac hba
        go_upto_region 6 with fail
        generalize wr.alloc (.cells #[.string y, .int .u8 (lo : Int), .int .u8 (hi : Int)] 101) = wq at arh ach rbh x1 x2 ⊢
        generalize wr.heap.size = bl at x1 x2 ⊢
        have hjc := isC_named s k
        generalize hA : namedU s k = acc at ach HST hjc
        have HA := Lib.hid hA
        clear hA
        obtain ⟨q0, q1, q2, q3, hq⟩ := isC_words acc hjc
        obtain ⟨u0, u1, u2, u3, hu⟩ := isC_words (orL acc (rangeL lo hi)) (isC_or _ _ hjc (isC_fromL _ _))
        have hrq : row64 acc = #[.int .u64 (q0 : Int), .int .u64 (q1 : Int), .int .u64 (q2 : Int), .int .u64 (q3 : Int)] := by rw [hq]; rfl
        have hrg := fun W => range_any W lo hi hlo hhi
        have hor := fun W => or_any W acc (rangeL lo hi) hjc (isC_fromL _ _)
        rw [hrq, show row64 (orL acc (rangeL lo hi)) = #[.int .u64 (u0 : Int), .int .u64 (u1 : Int), .int .u64 (u2 : Int), .int .u64 (u3 : Int)] by rw [hu]; rfl] at hor
        generalize row64 (rangeL lo hi) = gr at hrg hor
        have ach := ach.below (Below.refl _ _).drew ach.lt
        have arh := arh.below (Below.refl _ _).drew arh.lt
        have rbh := rbh.drew
        have hlq : w.heap.size + 1 < wq.drew.heap.size := ach.lt
        have hlr : w.heap.size < wq.drew.heap.size := arh.lt
        have x1 : wq.drew.cell? ⟨bl, 1, none⟩ = some (.int .u8 (lo : Int)) := x1
        have x2 : wq.drew.cell? ⟨bl, 2, none⟩ = some (.int .u8 (hi : Int)) := x2
        obtain ⟨z0, z1, z2, z3⟩ := ach.four hq
        have HRG := Lib.hid hrg
        have HOR := Lib.hid hor
        have HQ := Lib.hid hq
        have HU := Lib.hid hu
        clear hrq hrg hor hq hu hjc
        go_region_with (first | (go_at_call 24; (with_reducible refine (HRG.out _).mono ?_); rintro e w9 ⟨rfl, hb9⟩; have ac9 := ach.below hb9 hlq; obtain ⟨v0, v1, v2, v3⟩ := ac9.four HQ.out) | (go_at_call 21; (with_reducible refine (HOR.out _).mono ?_); rintro e w8 ⟨rfl, hb8⟩; have ac8 := ac9.below hb8 ac9.lt; have g0 := ac8.frozen 0; have g1 := ac8.frozen 1; have g2 := ac8.frozen 2; have g3 := ac8.frozen 3; obtain ⟨k0, k1, k2, k3⟩ := ac8.four HQ.out))
        all_goals
          have hbf := rbh.trans ((hb9.trans (hb8.mono hb9.size)).mono rbh.size)
          have arf : Arr64 w8 w.heap.size 28 noneL := (arh.below hb9 hlr).below hb8 (Nat.lt_of_lt_of_le hlr hb9.size)
          have HR2 := Lib.hid (setw (acc' := namedU s (k + 1)) (isC_named s k) (by rw [HA.out]; exact ac8) arf hbf (by rw [HST.out]; exact HU.out))
          clear hbf arf ac8 ac9 hb8 hb9 g0 g1 g2 g3 k0 k1 k2 k3 v0 v1 v2 v3 x1 x2 z0 z1 z2 z3 ach arh rbh hlq hlr HRG HOR
          go_wp2_with fail
          go_roundw
          case rel => exact ⟨k + 1, by omega, by go_num, HR2.out.1, HR2.out.2.1, HR2.out.2.2⟩
          case measure => simp [intOf]; omega
      · have he2 : (y.toList == s.toList) = false := (Lib.bytes_beq_false_iff y s).2 he
        rw [if_neg he] at hst
        have HST := Lib.hid hst
        have arh := ar.below hba ar.lt
        have ach := ac.below hba ac.lt
        have rbh := rb.trans (hba.mono hbs)
        clear he hst ar ac hba
        go_wp2_with fail
        go_roundw
        case rel => exact ⟨k + 1, by omega, by go_num, arh, by rw [HST.out]; exact ach, rbh⟩
        case measure => simp [intOf]; omega
    · obtain rfl : k = 23 := by omega
      have hL : namedU s 23 = namedL s := rfl
      rw [hL] at ac
      have hic : IsC (namedL s) := isC_named s 23
      obtain ⟨q0, q1, q2, q3, hq⟩ := isC_words (namedL s) hic
      obtain ⟨y0, y1, y2, y3⟩ := ac.four hq
      have g0 := ar.frozen 0
      have g1 := ar.frozen 1
      have g2 := ar.frozen 2
      have g3 := ar.frozen 3
      obtain ⟨z0, z1, z2, z3⟩ := ar.four rfl
      have e1 := fun W => run_neq_rowC W (namedL s) noneL hic.1 rfl
      rw [HRZ.out, show row64 (namedL s) = #[.int .u64 (q0 : Int), .int .u64 (q1 : Int), .int .u64 (q2 : Int), .int .u64 (q3 : Int)] by rw [hq]; rfl] at e1
      go_wp2_with fail
      have HF := Lib.hid (setr (w := w) ((ar.below (Below.refl _ _).drew ar.lt)) (rb.drew) q0 q1 q2 q3)
      have HQ := Lib.hid hq
      clear hic hL ac rb ar
      go_region_with (fail)
      all_goals
        clear y0 y1 y2 y3 z0 z1 z2 z3 g0 g1 g2 g3 e1
        go_wp2_with fail
        refine bodyPost_ret (results_cell_tmp rfl _ _ w.heap.size 28 (row64 [q0, q1, q2, q3]) (0, 0) _ rfl HF.out.1 Tryd.underlying28 rfl infoC) rfl ?_
        exact named_ret HQ.out HF.out.2
end Go.Proofs.YthegepiafodpjaaDoor
