/-
  bracket: item.
-/
import Derived.Test.YthegepiafodpjaaDoorBrT
import Derived.Deep.RegionHeld3
import Derived.RegionTactic
import Derived.ChangeAlike
namespace Go.Proofs.YthegepiafodpjaaDoor
open Go.RowKit

def ItPost (w : World) (r : TR) (e : Ending) (w' : World) : Prop :=
  (match r with
    | .ok set _ _ next => e = .returned (.tuple #[.agg (row64 set), .int .i64 (next : Int), .agg (faC 0 0)])
    | .bad er p => e = .returned (.tuple #[.agg (row64 noneL), .int .i64 0, .agg (faC er p)])) ∧ Below w.heap.size w w'
abbrev TCl : TypeId := 28
abbrev zCl : Array Value := #[.int .u64 0, .int .u64 0, .int .u64 0, .int .u64 0]
/-- A reader, and the boxes of a class and a fault. -/
structure IB (w0 w : World) (g g6 g8 : Nat) (a : Option Addr) (n c op : Nat) (l : List Mk) : Prop where
  rd : Rd w0 w g a n c op l
  h6 : w.heap[g6]? = some (.cells zCl TCl (0, 0))
  h8 : w.heap[g8]? = some (.cells zFa TFa (0, 0))
  l6 : w0.heap.size ≤ g6
  l8 : w0.heap.size ≤ g8
  ne : g6 ≠ g8
section
variable {w0 w w' : World} {g g6 g8 : Nat} {a : Option Addr} {n c op : Nat} {l : List Mk}
theorem IB.below (h : IB w0 w g g6 g8 a n c op l) (hb : Below w.heap.size w w') : IB w0 w' g g6 g8 a n c op l :=
  { h with rd := h.rd.below hb, h6 := heap_b hb h.h6, h8 := heap_b hb h.h8 }
theorem IB.new {w : World} (hs : SM w (.slice a n c) l) (hw : BrW w) : ∃ w1 g g6 g8, (((w.alloc (.cells #[.slice a n c, .int .i64 (op : Int)] 80)).alloc (.cells zCl TCl)).alloc (.cells zFa TFa)) = w1 ∧ w.heap.size = g ∧ w.heap.size + 1 = g6 ∧ w.heap.size + 1 + 1 = g8 ∧ IB w w1 g g6 g8 a n c op l := by
  refine ⟨_, _, _, _, rfl, rfl, rfl, rfl, ?_⟩
  have h1 := Rd.new (op := op) hs hw
  have e1 : (w.alloc (.cells #[.slice a n c, .int .i64 (op : Int)] 80)).heap.size = w.heap.size + 1 := by simp
  generalize w.alloc (.cells #[.slice a n c, .int .i64 (op : Int)] 80) = w1 at h1 e1 ⊢
  have b2 := box1 w1 (.cells zCl TCl)
  have n2 := heap_alloc_new w1 (.cells zCl TCl)
  have e2 : (w1.alloc (.cells zCl TCl)).heap.size = w.heap.size + 2 := by rw [World.size_alloc, e1]
  rw [e1] at n2
  have h2 := h1.below b2
  generalize w1.alloc (.cells zCl TCl) = w2 at h2 e2 n2 ⊢
  have b3 := box1 w2 (.cells zFa TFa)
  have n3 := heap_alloc_new w2 (.cells zFa TFa)
  rw [e2] at n3
  exact ⟨h2.below b3, heap_b b3 n2, n3, by omega, by omega, by omega⟩
theorem IB.cell6 (h : IB w0 w g g6 g8 a n c op l) : w.cell? ⟨g6, 0, none⟩ = some (.int .u64 0) ∧ w.cell? ⟨g6, 1, none⟩ = some (.int .u64 0) ∧ w.cell? ⟨g6, 2, none⟩ = some (.int .u64 0) ∧ w.cell? ⟨g6, 3, none⟩ = some (.int .u64 0) := by
  refine ⟨?_, ?_, ?_, ?_⟩ <;> (rw [cell_of_row _ _ _ _ _ (0, 0) h.h6]; rfl)
theorem IB.cell8 (h : IB w0 w g g6 g8 a n c op l) : w.cell? ⟨g8, 0, none⟩ = some (.int .i64 0) ∧ w.cell? ⟨g8, 1, none⟩ = some (.int .i64 0) := by
  refine ⟨?_, ?_⟩ <;> (rw [cell_of_row _ _ _ _ _ (0, 0) h.h8]; rfl)
end

/-- Class and fault are stored. -/
theorem IB.done {w0 w : World} {g g6 g8 : Nat} {a : Option Addr} {n c op : Nat} {l : List Mk} (h : IB w0 w g g6 g8 a n c op l) (cs cf : Array Value) : Below w0.heap.size w0 ((w.setRow g6 cs).setRow g8 cf) ∧ ((w.setRow g6 cs).setRow g8 cf).heap[g6]? = some (.cells cs TCl (0, 0)) ∧ ((w.setRow g6 cs).setRow g8 cf).heap[g8]? = some (.cells cf TFa (0, 0)) ∧ (w.setRow g6 cs).heap[g8]? = some (.cells zFa TFa (0, 0)) := by
  have h8 : (w.setRow g6 cs).heap[g8]? = some (.cells zFa TFa (0, 0)) := by rw [_root_.Go.setRow_other w g6 g8 cs (Ne.symm h.ne)]; exact h.h8
  refine ⟨below_setRow (below_setRow h.rd.bel h.l6 cs) h.l8 cf, ?_, setRow_heap _ g8 _ _ TFa _ h8, h8⟩
  rw [_root_.Go.setRow_other _ g8 g6 cf h.ne]
  exact setRow_heap w g6 _ _ TCl _ h.h6
theorem setRow_cell {w : World} {g k : Nat} {cs : Array Value} {j : Nat} {v : Value} (h : w.cell? ⟨k, j, none⟩ = some v) (hne : k ≠ g) : (w.setRow g cs).cell? ⟨k, j, none⟩ = some v := by
  rw [World.cell?_of_block (w := w) (_root_.Go.setRow_other w g k cs hne)]
  exact h
/-- A class in a box, a number in a slot, a fault in a box. -/
theorem ret_item {P : Program} {fn : Func} {p q r : Tmp} {ty tz : TypeId} (h : fn.results = #[.cell p ty, .tmp r, .cell q tz]) {R : Ending → World → Prop} {a : Act} {w : World} {g g2 : Nat} {t t2 : TypeId} {cs cf : Array Value} {d d2 : TypeDesc}
    (hp : a.tmps.getD p undef = .pointer (some ⟨g, 0, none⟩)) (hg : w.heap[g]? = some (.cells cs t (0, 0))) (hu : P.underlying ty = some d) (hd : (match d with | .struct _ | .array _ _ => true | _ => false) = true) (hi : (P.info? ty).map (·.size) = some cs.size)
    (hq : a.tmps.getD q undef = .pointer (some ⟨g2, 0, none⟩)) (hg2 : w.heap[g2]? = some (.cells cf t2 (0, 0))) (hu2 : P.underlying tz = some d2) (hd2 : (match d2 with | .struct _ | .array _ _ => true | _ => false) = true) (hi2 : (P.info? tz).map (·.size) = some cf.size)
    (hdef : a.defers = []) (hR : R (.returned (.tuple #[.agg cs, a.tmps.getD r undef, .agg cf])) w) : bodyPost P fn R .ret a w := by
  have hp' : a.tmps[p]?.getD undef = .pointer (some ⟨g, 0, none⟩) := by simpa using hp
  have hq' : a.tmps[q]?.getD undef = .pointer (some ⟨g2, 0, none⟩) := by simpa using hq
  refine bodyPost_ret (v := .tuple #[.agg cs, a.tmps.getD r undef, .agg cf]) ?_ hdef hR
  simp [results, h, hp', hq', asAddr, run_loadVar_row w g t ty cs (0, 0) d hg hu hd hi, run_loadVar_row w g2 t2 tz cf (0, 0) d2 hg2 hu2 hd2 hi2]
theorem infoCl : (Tryd.prog.info? TCl).map (·.size) = some 4 := by kernel_rfl
theorem bad_post {w w' : World} {r : TR} {er p : Nat} (hr : r = .bad er p) (hb : Below w.heap.size w w') : ItPost w r (.returned (.tuple #[.agg zCl, .int .i64 0, .agg (faC er p)])) w' := by
  subst hr
  exact ⟨rfl, hb⟩
theorem IB.boxes {w0 w : World} {g g6 g8 : Nat} {a : Option Addr} {n c op : Nat} {l : List Mk} (h : IB w0 w g g6 g8 a n c op l) (cs cf : Array Value) : ∃ w1 g10 g11, (w.alloc (.cells cs TTh)).alloc (.cells cf TFa) = w1 ∧ w.heap.size = g10 ∧ w.heap.size + 1 = g11 ∧ IB w0 w1 g g6 g8 a n c op l ∧ w1.heap[g10]? = some (.cells cs TTh (0, 0)) ∧ w1.heap[g11]? = some (.cells cf TFa (0, 0)) ∧ Below w.heap.size w w1 ∧ (g10 ≠ g6 ∧ g10 ≠ g8) ∧ (g11 ≠ g6 ∧ g11 ≠ g8) ∧ g10 ≠ g11 ∧ g11 ≠ g ∧ w0.heap.size ≤ g11 := by
  refine ⟨_, _, _, rfl, rfl, rfl, ?_⟩
  have b1 := box1 w (.cells cs TTh)
  have n1 := heap_alloc_new w (.cells cs TTh)
  have e1 : (w.alloc (.cells cs TTh)).heap.size = w.heap.size + 1 := by simp
  have k6 := (Array.getElem?_eq_some_iff.1 h.h6).1
  have k8 := (Array.getElem?_eq_some_iff.1 h.h8).1
  have h1 := h.below b1
  have kg := World.block_lt_of_cell? w _ h.rd.c0
  have kw := h.rd.bel.size
  simp only at kg
  generalize w.alloc (.cells cs TTh) = w1 at b1 n1 e1 h1 ⊢
  have b2 := box1 w1 (.cells cf TFa)
  have n2 := heap_alloc_new w1 (.cells cf TFa)
  rw [e1] at n2
  exact ⟨h1.below b2, heap_b b2 n1, n2, b1.trans (b2.mono (by omega)), ⟨by omega, by omega⟩, ⟨by omega, by omega⟩, by omega, by omega, by omega⟩
theorem IB.other {w0 w : World} {g g6 g8 k : Nat} {a : Option Addr} {n c op : Nat} {l : List Mk} (h : IB w0 w g g6 g8 a n c op l) (hk : k ≠ g6 ∧ k ≠ g8) (hg : k ≠ g) (hl : w0.heap.size ≤ k) (j : Nat) (x : Value) : IB w0 (w.setCell ⟨k, j, none⟩ x) g g6 g8 a n c op l :=
  { h with
    rd := { h.rd with bel := h.rd.bel.setCell hl _, c0 := cell_setCell_far h.rd.c0 (fun e => hg e.symm) _, c1 := cell_setCell_far h.rd.c1 (fun e => hg e.symm) _ }
    h6 := by rw [heap_setCell_other w ⟨k, j, none⟩ g6 x (fun e => hk.1 e.symm)]; exact h.h6
    h8 := by rw [heap_setCell_other w ⟨k, j, none⟩ g8 x (fun e => hk.2 e.symm)]; exact h.h8 }
theorem IB.row {w0 w : World} {g g6 g8 k : Nat} {a : Option Addr} {n c op : Nat} {l : List Mk} (h : IB w0 w g g6 g8 a n c op l) (hk : k ≠ g6 ∧ k ≠ g8) (hg : k ≠ g) (hl : w0.heap.size ≤ k) (cs : Array Value) : IB w0 (w.setRow k cs) g g6 g8 a n c op l :=
  { h with
    rd := { h.rd with bel := below_setRow h.rd.bel hl cs, c0 := setRow_cell h.rd.c0 (fun e => hg e.symm), c1 := setRow_cell h.rd.c1 (fun e => hg e.symm) }
    h6 := by rw [_root_.Go.setRow_other w k g6 cs (fun e => hk.1 e.symm)]; exact h.h6
    h8 := by rw [_root_.Go.setRow_other w k g8 cs (fun e => hk.2 e.symm)]; exact h.h8 }
def BadE : TR → Prop
  | .ok _ _ _ _ => True
  | .bad e _ => e = 30 ∨ e = 31 ∨ e = 32
theorem name_bad (l : List Mk) (op i : Nat) : ∀ (f k : Nat) (text : List Int), BadE (nameM l op i f k text)
  | 0, _, _ => .inr (.inr rfl)
  | f + 1, k, text => by
    unfold nameM
    split
    · exact .inr (.inr rfl)
    · split
      · split
        · exact .inr (.inl rfl)
        · trivial
      · exact name_bad l op i f (k + 1) _
theorem thing_bad (l : List Mk) (op i : Nat) : BadE (thingM l op i) := by
  unfold thingM
  split
  · exact .inr (.inr rfl)
  · split
    · exact name_bad l op i _ _ _
    · split
      · trivial
      · split
        · exact .inr (.inr rfl)
        · split
          · exact .inr (.inl rfl)
          · split
            · exact .inr (.inr rfl)
            · split
              · exact .inr (.inl rfl)
              · trivial
def ValB : TR → Prop
  | .ok _ _ v _ => 0 ≤ v ∧ v ≤ 255
  | .bad _ _ => True
theorem name_val (l : List Mk) (op i : Nat) : ∀ (f k : Nat) (text : List Int), ValB (nameM l op i f k text)
  | 0, _, _ => trivial
  | f + 1, k, text => by
    unfold nameM
    split
    · trivial
    · split
      · split
        · trivial
        · exact ⟨by omega, by omega⟩
      · exact name_val l op i f (k + 1) _
theorem thing_val (l : List Mk) (hM : IsM l) (op i : Nat) : ValB (thingM l op i) := by
  unfold thingM
  split
  · trivial
  · split
    · exact name_val l op i _ _ _
    · split
      · exact hM i
      · split
        · trivial
        · split
          · trivial
          · split
            · trivial
            · split
              · trivial
              · exact hM (i + 2)
theorem isC_rangeL4 (lo hi : Nat) : IsC (rangeL lo hi) := isC_fromL _ _
/-- Is a bare dash in a place that is none of its own? -/
def dashB (l : List Mk) (i : Nat) (first : Bool) : Bool := sgn l i 45 && !first && !over l (i + 1) && !sgn l (i + 1) 93
def DaP (w wx : World) (g g6 g8 g9 : Nat) (a : Option Addr) (n c op i : Nat) (l : List Mk) (b : Bool) (v : Value) : Prop := v = .bool b ∧ IB w wx g g6 g8 a n c op l ∧ wx.heap[g9]? = some (.cells #[.int .i64 30, .int .i64 (i : Int)] TFa (0, 0))
theorem trV_bad (e p : Nat) : trV (.bad e p) = .tuple #[.agg zTh, .agg #[.int .i64 (e : Int), .int .i64 (p : Int)]] := rfl
theorem trV_ok (u0 u1 u2 u3 : Nat) (fin : Bool) (v : Int) (next : Nat) : trV (.ok [u0, u1, u2, u3] fin v next) = .tuple #[.agg #[.int .u64 (u0 : Int), .int .u64 (u1 : Int), .int .u64 (u2 : Int), .int .u64 (u3 : Int), .bool fin, .int .u8 v, .int .i64 (next : Int)], .agg zFa] := rfl
theorem ok_post {w w' : World} {r : TR} {u0 u1 u2 u3 next : Nat} {fin : Bool} {v : Int} (hr : r = .ok [u0, u1, u2, u3] fin v next) (hb : Below w.heap.size w w') : ItPost w r (.returned (.tuple #[.agg #[.int .u64 (u0 : Int), .int .u64 (u1 : Int), .int .u64 (u2 : Int), .int .u64 (u3 : Int)], .int .i64 (next : Int), .agg (faC 0 0)])) w' := by
  subst hr
  exact ⟨rfl, hb⟩

set_option maxHeartbeats 4000000 in
set_option maxRecDepth 100000 in
theorem item_any (w : World) (hw : BrW w) (a : Option Addr) (n c op i : Nat) (first : Bool) (l : List Mk) (h : SM w (.slice a n c) l) (hi : i ≤ n + 4) :
    Calls Tryd.prog 62 #[rdV a n c op, .int .i64 (i : Int), .bool first] w (ItPost w (itemM l op i first)) := by
  obtain ⟨hl, hn⟩ := h.len
  obtain ⟨w1, g, g6, g8, e1, e2, e3, e4, hN⟩ := IB.new (op := op) h hw
  have HN := Lib.hid hN
  have HL := Lib.hid hl
  have HM := Lib.hid h.1
  have E := Lib.hid (And.intro e1 (And.intro e2 (And.intro e3 e4)))
  clear h hw hl hN e1 e2 e3 e4
  go_enter Tryd.func62, Tryd.ntmps62
  go_upto_region 1 with fail
  rw [E.out.2.2.2, E.out.2.2.1, E.out.2.1, E.out.1]
  clear E
  have HN9 := Lib.hid (HN.out.below (box1 w1 (.cells #[.int .i64 30, .int .i64 (i : Int)] TFa)))
  have HF9 := Lib.hid (heap_alloc_new w1 (.cells #[.int .i64 30, .int .i64 (i : Int)] TFa))
  go_upto_region 2 with fail
  obtain ⟨g9, hg9⟩ : ∃ g9, w1.heap.size = g9 := ⟨_, rfl⟩
  rw [hg9] at HF9 ⊢
  generalize w1.alloc (.cells #[.int .i64 30, .int .i64 (i : Int)] TFa) = w2 at HN9 HF9 ⊢
  have HNE : Hid (g9 ≠ g6 ∧ g9 ≠ g8) := Lib.hid (by
    have h6 := (Array.getElem?_eq_some_iff.1 HN.out.h6).1
    have h8 := (Array.getElem?_eq_some_iff.1 HN.out.h8).1
    omega)
  clear HN hg9
  go_cut [35] (fun v wx => DaP w wx g g6 g8 g9 a n c op i l (dashB l i first) v)
  case first =>
    have c0 := HN9.out.rd.c0
    have c1 := HN9.out.rd.c1
    go_wp2_with fail
    refine (sign_any w2 a n c op i 45 l HN9.out.rd.sm).mono ?_
    rintro e w3 ⟨rfl, hb⟩
    have HN := Lib.hid (HN9.out.below hb)
    have HF := Lib.hid (heap_b hb HF9.out)
    clear c0 c1 hb HN9 HF9
    cases hs : sgn l i 45 with
    | false =>
      have HS := Lib.hid hs
      clear hs
      go_wp2_with fail
      go_meet
      case rel => exact ⟨by unfold dashB; rw [HS.out]; rfl, HN.out, HF.out⟩
    | true =>
      have HS := Lib.hid hs
      clear hs
      cases first with
      | true =>
        go_wp2_with fail
        go_meet
        case rel => exact ⟨by unfold dashB; rw [HS.out]; rfl, HN.out, HF.out⟩
      | false =>
        have c0 := HN.out.rd.c0
        have c1 := HN.out.rd.c1
        go_wp2_with fail
        refine (over_any w3 a n c op (i + 1) l HN.out.rd.sm).mono ?_
        rintro e w4 ⟨rfl, hb⟩
        have HN2 := Lib.hid (HN.out.below hb)
        have HF2 := Lib.hid (heap_b hb HF.out)
        clear c0 c1 hb HN HF
        cases ho : over l (i + 1) with
        | true =>
          have HO := Lib.hid ho
          clear ho
          go_wp2_with fail
          go_meet
          case rel => exact ⟨by unfold dashB; rw [HS.out, HO.out]; rfl, HN2.out, HF2.out⟩
        | false =>
          have HO := Lib.hid ho
          clear ho
          have c0 := HN2.out.rd.c0
          have c1 := HN2.out.rd.c1
          go_wp2_with fail
          refine (sign_any w4 a n c op (i + 1) 93 l HN2.out.rd.sm).mono ?_
          rintro e w5 ⟨rfl, hb⟩
          have HN := Lib.hid (HN2.out.below hb)
          have HF := Lib.hid (heap_b hb HF2.out)
          clear c0 c1 hb HN2 HF2
          cases h93 : sgn l (i + 1) 93 with
          | true =>
            have H93 := Lib.hid h93
            clear h93
            go_wp2_with fail
            go_meet
            case rel => exact ⟨by unfold dashB; rw [HS.out, HO.out, H93.out]; rfl, HN.out, HF.out⟩
          | false =>
            have H93 := Lib.hid h93
            clear h93
            go_wp2_with fail
            go_meet
            case rel => exact ⟨by unfold dashB; rw [HS.out, HO.out, H93.out]; rfl, HN.out, HF.out⟩
  case rest =>
    obtain ⟨hv, hN, hF⟩ := hcut
    subst hv
    generalize wc = w5 at hN hF ⊢
    have HN := Lib.hid hN
    have HF := Lib.hid hF
    clear HN9 HF9 hN hF
    have HIT : Hid (itemM l op i first = if dashB l i first = true then .bad 30 i else match thingM l op i with
      | .bad e a => .bad e a
      | .ok set fin value next =>
        if (!sgn l next 45 || sgn l (next + 1) 93) = true then .ok set fin value next
        else if over l (next + 1) = true then .bad 32 op
        else if fin = false then .bad 30 i
        else match thingM l op (next + 1) with
          | .bad e a => .bad e a
          | .ok _ fin2 value2 next2 => if fin2 = false ∨ value2 < value then .bad 30 i else .ok (rangeL value.toNat value2.toNat) false 0 next2) := Lib.hid rfl
    cases hda : dashB l i first with
    | true =>
      have HEQ : Hid (itemM l op i first = .bad 30 i) := Lib.hid (by rw [HIT.out, hda]; rfl)
      clear hda HIT
      have d0 : w5.cell? ⟨g9, 0, none⟩ = some (.int .i64 30) := by rw [cell_of_row _ _ _ _ _ (0, 0) HF.out]; rfl
      have d1 : w5.cell? ⟨g9, 1, none⟩ = some (.int .i64 (i : Int)) := by rw [cell_of_row _ _ _ _ _ (0, 0) HF.out]; rfl
      have HD := Lib.hid ((HN.out.below (Below.refl _ w5).drew).done zCl (faC 30 i))
      go_upto_region 3 with fail
      refine wp_region_held_drew (S := fun w' => w'.cell? ⟨g9, 0, none⟩ = some (.int .i64 30) ∧ w'.cell? ⟨g9, 1, none⟩ = some (.int .i64 (i : Int))) (by kernel_rfl) (And.intro d0 d1) (fun hHeld => ?_)
      refine wpAnyH_take (i := 0) (v := .agg zCl) rfl (by kernel_rfl) (by kernel_rfl) (by kernel_rfl) (fun _ _ _ h => h) (Or.inl ⟨by rfl, by intro w hSw; (try dsimp only at hSw); go_simp⟩) (by assumption) ?_
      simp only [Act.put, List.getElem_toArray, List.getElem_cons_zero, List.setIfInBounds_toArray, List.set_cons_zero, List.set_cons_succ]
      refine wpAnyH_take (i := 1) (v := .agg #[.int .i64 30, .int .i64 (i : Int)]) rfl (by kernel_rfl) (by kernel_rfl) (by kernel_rfl) (fun _ _ _ h => h) (Or.inl ⟨by rfl, by intro w hSw; (try dsimp only at hSw); go_simp⟩) (by assumption) ?_
      simp only [Act.put, List.getElem_toArray, List.getElem_cons_zero, List.getElem_cons_succ, List.setIfInBounds_toArray, List.set_cons_zero, List.set_cons_succ]
      refine wpAnyH_ready (rs := [2]) (by kernel_rfl) (by simp) ?_
      refine AllReadyH.cons rfl (fun K hK => ?_) AllReadyH.nil
      refine wp_store_row TCl _ _ rfl g6 zCl rfl rfl TCl zCl HN.out.h6 infoCl rfl (by kernel_rfl) ?_
      refine hK.out _ _ ⟨setRow_cell hHeld.1 HNE.out.1, setRow_cell hHeld.2 HNE.out.1⟩ (fun hHeld => ?_)
      clear hK K
      refine wpAnyH_take (i := 3) (v := .int .i64 0) rfl (by kernel_rfl) (by kernel_rfl) (by kernel_rfl) (fun _ _ _ h => h) (Or.inl ⟨by rfl, by intro w hSw; (try dsimp only at hSw); go_simp⟩) (by assumption) ?_
      simp only [Act.put, List.getElem_toArray, List.getElem_cons_zero, List.getElem_cons_succ, List.setIfInBounds_toArray, List.set_cons_zero, List.set_cons_succ]
      refine wpAnyH_ready (rs := [4]) (by kernel_rfl) (by simp) ?_
      refine AllReadyH.cons rfl (fun K hK => ?_) AllReadyH.nil
      refine wp_store_row TFa _ _ rfl g8 (faC 30 i) rfl rfl TFa zFa HD.out.2.2.2 infoFa rfl (by kernel_rfl) ?_
      refine hK.out _ _ ⟨setRow_cell hHeld.1 HNE.out.2, setRow_cell hHeld.2 HNE.out.2⟩ (fun hHeld => ?_)
      clear hK K
      refine wpAnyH_done (by kernel_rfl) ?_ _
      go_wp2_with fail
      exact ret_item (p := 6) (q := 8) (r := 7) rfl rfl HD.out.2.1 Tryd.underlying28 rfl infoCl rfl HD.out.2.2.1 Tryd.underlying83 rfl infoFa rfl (bad_post HEQ.out HD.out.1)
    | false =>
      have hDA : Hid (dashB l i first = false) := Lib.hid hda
      clear hda
      rw [hDA.out, if_neg (by decide)] at HIT
      have c0 := HN.out.rd.c0
      have c1 := HN.out.rd.c1
      have hok := thing_okC l op i
      have hbd := thing_bad l op i
      go_wp2_with fail
      refine (thing_any w5 HN.out.rd.br a n c op i l HN.out.rd.sm).mono ?_
      rintro e w6 ⟨rfl, hb⟩
      have HN6 := Lib.hid (HN.out.below hb)
      have HF6 := Lib.hid (heap_b hb HF.out)
      clear c0 c1 hb HN HF
      cases hth : thingM l op i with
      | bad e p =>
        rw [hth] at HIT hbd
        clear hok hth
        rw [trV_bad]
        obtain ⟨w7, g10, g11, f1, f2, f3, hN7, h10, h11, hb7, n10, n11, n12, n13, n14⟩ := HN6.out.boxes zTh #[.int .i64 (e : Int), .int .i64 (p : Int)]
        have HN7 := Lib.hid hN7
        have H11 := Lib.hid h11
        have NE11 := Lib.hid n11
        have F := Lib.hid (And.intro f1 (And.intro f2 f3))
        clear f1 f2 f3 hN7 h10 h11 hb7 n10 n11 n12 n13 n14
        go_upto_region 5 with fail
        rw [F.out.2.2, F.out.2.1, F.out.1]
        clear F HN6 HF6
        have hen : ((e : Int) != 0) = true := by rcases hbd with h | h | h <;> rw [h] <;> rfl
        have HEQ : Hid (itemM l op i first = .bad e p) := HIT
        clear hbd HIT
        have d0 : w7.cell? ⟨g11, 0, none⟩ = some (.int .i64 (e : Int)) := by rw [cell_of_row _ _ _ _ _ (0, 0) H11.out]; rfl
        have d1 : w7.cell? ⟨g11, 1, none⟩ = some (.int .i64 (p : Int)) := by rw [cell_of_row _ _ _ _ _ (0, 0) H11.out]; rfl
        have HD := Lib.hid ((HN7.out.below (Below.refl _ w7).drew).done zCl (faC e p))
        go_upto_region 6 with fail
        refine wp_region_held_drew (S := fun w' => w'.cell? ⟨g11, 0, none⟩ = some (.int .i64 (e : Int)) ∧ w'.cell? ⟨g11, 1, none⟩ = some (.int .i64 (p : Int))) (by kernel_rfl) (And.intro d0 d1) (fun hHeld => ?_)
        refine wpAnyH_take (i := 0) (v := .agg zCl) rfl (by kernel_rfl) (by kernel_rfl) (by kernel_rfl) (fun _ _ _ h => h) (Or.inl ⟨by rfl, by intro w hSw; (try dsimp only at hSw); go_simp⟩) (by assumption) ?_
        simp only [Act.put, List.getElem_toArray, List.getElem_cons_zero, List.setIfInBounds_toArray, List.set_cons_zero, List.set_cons_succ]
        refine wpAnyH_take (i := 1) (v := .agg #[.int .i64 (e : Int), .int .i64 (p : Int)]) rfl (by kernel_rfl) (by kernel_rfl) (by kernel_rfl) (fun _ _ _ h => h) (Or.inl ⟨by rfl, by intro w hSw; (try dsimp only at hSw); go_simp⟩) (by assumption) ?_
        simp only [Act.put, List.getElem_toArray, List.getElem_cons_zero, List.getElem_cons_succ, List.setIfInBounds_toArray, List.set_cons_zero, List.set_cons_succ]
        refine wpAnyH_ready (rs := [2]) (by kernel_rfl) (by simp) ?_
        refine AllReadyH.cons rfl (fun K hK => ?_) AllReadyH.nil
        refine wp_store_row TCl _ _ rfl g6 zCl rfl rfl TCl zCl HN7.out.h6 infoCl rfl (by kernel_rfl) ?_
        refine hK.out _ _ ⟨setRow_cell hHeld.1 NE11.out.1, setRow_cell hHeld.2 NE11.out.1⟩ (fun hHeld => ?_)
        clear hK K
        refine wpAnyH_take (i := 3) (v := .int .i64 0) rfl (by kernel_rfl) (by kernel_rfl) (by kernel_rfl) (fun _ _ _ h => h) (Or.inl ⟨by rfl, by intro w hSw; (try dsimp only at hSw); go_simp⟩) (by assumption) ?_
        simp only [Act.put, List.getElem_toArray, List.getElem_cons_zero, List.getElem_cons_succ, List.setIfInBounds_toArray, List.set_cons_zero, List.set_cons_succ]
        refine wpAnyH_ready (rs := [4]) (by kernel_rfl) (by simp) ?_
        refine AllReadyH.cons rfl (fun K hK => ?_) AllReadyH.nil
        refine wp_store_row TFa _ _ rfl g8 (faC e p) rfl rfl TFa zFa HD.out.2.2.2 infoFa rfl (by kernel_rfl) ?_
        refine hK.out _ _ ⟨setRow_cell hHeld.1 NE11.out.2, setRow_cell hHeld.2 NE11.out.2⟩ (fun hHeld => ?_)
        clear hK K
        refine wpAnyH_done (by kernel_rfl) ?_ _
        go_wp2_with fail
        exact ret_item (p := 6) (q := 8) (r := 7) rfl rfl HD.out.2.1 Tryd.underlying28 rfl infoCl rfl HD.out.2.2.1 Tryd.underlying83 rfl infoFa rfl (bad_post HEQ.out HD.out.1)
      | ok set fin v next =>
        obtain ⟨u0, u1, u2, u3, hu⟩ := isC_words set (by rw [hth] at hok; exact hok)
        subst hu
        have hnx := thing_next l op i
        rw [hth] at HIT hnx
        have hnext : next ≤ n := by have := hnx.2; rw [HL.out] at this; exact this
        clear hok hbd hnx
        have HTH := Lib.hid hth
        clear hth
        rw [trV_ok]
        obtain ⟨w7, g10, g11, f1, f2, f3, hN7, h10, h11, hb7, n10, n11, n12, n13, n14⟩ := HN6.out.boxes #[.int .u64 (u0 : Int), .int .u64 (u1 : Int), .int .u64 (u2 : Int), .int .u64 (u3 : Int), .bool fin, .int .u8 v, .int .i64 (next : Int)] zFa
        have HN7 := Lib.hid hN7
        have H10 := Lib.hid h10
        have H11 := Lib.hid h11
        have NE10 := Lib.hid n10
        have NE11 := Lib.hid n11
        have N1011 := Lib.hid (And.intro n12 (And.intro n13 n14))
        have N9 : Hid (g9 ≠ g11) := Lib.hid (by have k9 := (Array.getElem?_eq_some_iff.1 HF6.out).1; omega)
        have HF7 := Lib.hid (heap_b hb7 HF6.out)
        have F := Lib.hid (And.intro f1 (And.intro f2 f3))
        clear f1 f2 f3 hN7 h10 h11 hb7 n10 n11 n12 n13 n14
        go_upto_region 5 with fail
        rw [F.out.2.2, F.out.2.1, F.out.1]
        clear F HN6 HF6
        have c0 := HN7.out.rd.c0
        have c1 := HN7.out.rd.c1
        have k0 : w7.cell? ⟨g11, 0, none⟩ = some (.int .i64 0) := by rw [cell_of_row _ _ _ _ _ (0, 0) H11.out]; rfl
        have x6 : w7.cell? ⟨g10, 6, none⟩ = some (.int .i64 (next : Int)) := by rw [cell_of_row _ _ _ _ _ (0, 0) H10.out]; rfl
        go_wp2_with fail
        refine (sign_any w7 a n c op next 45 l HN7.out.rd.sm).mono ?_
        rintro e w8 ⟨rfl, hb⟩
        have HN := Lib.hid (HN7.out.below hb)
        have HF := Lib.hid (heap_b hb HF7.out)
        have HT := Lib.hid (heap_b hb H10.out)
        have HG := Lib.hid (heap_b hb H11.out)
        clear c0 c1 k0 x6 hb HN7 HF7 H10 H11
        cases h45 : sgn l next 45 with
        | false =>
          have HEQ : Hid (itemM l op i first = .ok [u0, u1, u2, u3] fin v next) := Lib.hid (by rw [HIT.out, h45]; rfl)
          clear h45 HIT
          have d0 : w8.cell? ⟨g10, 0, none⟩ = some (.int .u64 (u0 : Int)) := by rw [cell_of_row _ _ _ _ _ (0, 0) HT.out]; rfl
          have d1 : w8.cell? ⟨g10, 1, none⟩ = some (.int .u64 (u1 : Int)) := by rw [cell_of_row _ _ _ _ _ (0, 0) HT.out]; rfl
          have d2 : w8.cell? ⟨g10, 2, none⟩ = some (.int .u64 (u2 : Int)) := by rw [cell_of_row _ _ _ _ _ (0, 0) HT.out]; rfl
          have d3 : w8.cell? ⟨g10, 3, none⟩ = some (.int .u64 (u3 : Int)) := by rw [cell_of_row _ _ _ _ _ (0, 0) HT.out]; rfl
          have d6 : w8.cell? ⟨g10, 6, none⟩ = some (.int .i64 (next : Int)) := by rw [cell_of_row _ _ _ _ _ (0, 0) HT.out]; rfl
          have HD := Lib.hid ((HN.out.below (Below.refl _ w8).drew).done #[.int .u64 (u0 : Int), .int .u64 (u1 : Int), .int .u64 (u2 : Int), .int .u64 (u3 : Int)] (faC 0 0))
          go_upto_region 8 with fail
          refine wp_region_held_drew (S := fun w' => w'.cell? ⟨g10, 0, none⟩ = some (.int .u64 (u0 : Int)) ∧ w'.cell? ⟨g10, 1, none⟩ = some (.int .u64 (u1 : Int)) ∧ w'.cell? ⟨g10, 2, none⟩ = some (.int .u64 (u2 : Int)) ∧ w'.cell? ⟨g10, 3, none⟩ = some (.int .u64 (u3 : Int)) ∧ w'.cell? ⟨g10, 6, none⟩ = some (.int .i64 (next : Int))) (by kernel_rfl) ⟨d0, d1, d2, d3, d6⟩ (fun hHeld => ?_)
          refine wpAnyH_take (i := 0) (v := .pointer (some ⟨g10, 0, none⟩)) rfl (by kernel_rfl) (by kernel_rfl) (by kernel_rfl) (fun _ _ _ h => h) (Or.inl ⟨by rfl, by intro w hSw; (try dsimp only at hSw); go_simp⟩) (by assumption) ?_
          simp only [Act.put, List.getElem_toArray, List.getElem_cons_zero, List.setIfInBounds_toArray, List.set_cons_zero, List.set_cons_succ]
          refine wpAnyH_take (i := 1) (v := .agg #[.int .u64 (u0 : Int), .int .u64 (u1 : Int), .int .u64 (u2 : Int), .int .u64 (u3 : Int)]) rfl (by kernel_rfl) (by kernel_rfl) (by kernel_rfl) (fun _ _ _ h => h) (Or.inl ⟨by rfl, by intro w hSw; (try dsimp only at hSw); go_simp⟩) (by assumption) ?_
          simp only [Act.put, List.getElem_toArray, List.getElem_cons_zero, List.getElem_cons_succ, List.setIfInBounds_toArray, List.set_cons_zero, List.set_cons_succ]
          refine wpAnyH_take (i := 2) (v := .pointer (some ⟨g10, 6, none⟩)) rfl (by kernel_rfl) (by kernel_rfl) (by kernel_rfl) (fun _ _ _ h => h) (Or.inl ⟨by rfl, by intro w hSw; (try dsimp only at hSw); go_simp⟩) (by assumption) ?_
          simp only [Act.put, List.getElem_toArray, List.getElem_cons_zero, List.getElem_cons_succ, List.setIfInBounds_toArray, List.set_cons_zero, List.set_cons_succ]
          refine wpAnyH_take (i := 3) (v := .int .i64 (next : Int)) rfl (by kernel_rfl) (by kernel_rfl) (by kernel_rfl) (fun _ _ _ h => h) (Or.inl ⟨by rfl, by intro w hSw; (try dsimp only at hSw); go_simp⟩) (by assumption) ?_
          simp only [Act.put, List.getElem_toArray, List.getElem_cons_zero, List.getElem_cons_succ, List.setIfInBounds_toArray, List.set_cons_zero, List.set_cons_succ]
          refine wpAnyH_take (i := 4) (v := .agg zFa) rfl (by kernel_rfl) (by kernel_rfl) (by kernel_rfl) (fun _ _ _ h => h) (Or.inl ⟨by rfl, by intro w hSw; (try dsimp only at hSw); go_simp⟩) (by assumption) ?_
          simp only [Act.put, List.getElem_toArray, List.getElem_cons_zero, List.getElem_cons_succ, List.setIfInBounds_toArray, List.set_cons_zero, List.set_cons_succ]
          refine wpAnyH_ready (rs := [5]) (by kernel_rfl) (by simp) ?_
          refine AllReadyH.cons rfl (fun K hK => ?_) AllReadyH.nil
          refine wp_store_row TCl _ _ rfl g6 #[.int .u64 (u0 : Int), .int .u64 (u1 : Int), .int .u64 (u2 : Int), .int .u64 (u3 : Int)] rfl rfl TCl zCl HN.out.h6 infoCl rfl (by kernel_rfl) ?_
          refine hK.out _ _ ⟨setRow_cell hHeld.1 NE10.out.1, setRow_cell hHeld.2.1 NE10.out.1, setRow_cell hHeld.2.2.1 NE10.out.1, setRow_cell hHeld.2.2.2.1 NE10.out.1, setRow_cell hHeld.2.2.2.2 NE10.out.1⟩ (fun hHeld => ?_)
          clear hK K
          refine wpAnyH_take (i := 6) (v := .int .i64 (next : Int)) rfl (by kernel_rfl) (by kernel_rfl) (by kernel_rfl) (fun _ _ _ h => h) (Or.inl ⟨by rfl, by intro w hSw; (try dsimp only at hSw); go_simp⟩) (by assumption) ?_
          simp only [Act.put, List.getElem_toArray, List.getElem_cons_zero, List.getElem_cons_succ, List.setIfInBounds_toArray, List.set_cons_zero, List.set_cons_succ]
          refine wpAnyH_ready (rs := [7]) (by kernel_rfl) (by simp) ?_
          refine AllReadyH.cons rfl (fun K hK => ?_) AllReadyH.nil
          refine wp_store_row TFa _ _ rfl g8 (faC 0 0) rfl rfl TFa zFa HD.out.2.2.2 infoFa rfl (by kernel_rfl) ?_
          refine hK.out _ _ ⟨setRow_cell hHeld.1 NE10.out.2, setRow_cell hHeld.2.1 NE10.out.2, setRow_cell hHeld.2.2.1 NE10.out.2, setRow_cell hHeld.2.2.2.1 NE10.out.2, setRow_cell hHeld.2.2.2.2 NE10.out.2⟩ (fun hHeld => ?_)
          clear hK K
          refine wpAnyH_done (by kernel_rfl) ?_ _
          go_wp2_with fail
          exact ret_item (p := 6) (q := 8) (r := 7) rfl rfl HD.out.2.1 Tryd.underlying28 rfl infoCl rfl HD.out.2.2.1 Tryd.underlying83 rfl infoFa rfl (ok_post HEQ.out HD.out.1)
        | true =>
          have H45 := Lib.hid h45
          clear h45
          have c0 := HN.out.rd.c0
          have c1 := HN.out.rd.c1
          have x6 : w8.cell? ⟨g10, 6, none⟩ = some (.int .i64 (next : Int)) := by rw [cell_of_row _ _ _ _ _ (0, 0) HT.out]; rfl
          go_wp2_with fail
          refine (sign_any w8 a n c op (next + 1) 93 l HN.out.rd.sm).mono ?_
          rintro e w9 ⟨rfl, hb⟩
          have HN2 := Lib.hid (HN.out.below hb)
          have HF2 := Lib.hid (heap_b hb HF.out)
          have HT2 := Lib.hid (heap_b hb HT.out)
          have HG2 := Lib.hid (heap_b hb HG.out)
          clear c0 c1 x6 hb HN HF HT HG
          cases h93 : sgn l (next + 1) 93 with
          | true =>
            have HEQ : Hid (itemM l op i first = .ok [u0, u1, u2, u3] fin v next) := Lib.hid (by rw [HIT.out, H45.out, h93]; rfl)
            clear h93 HIT
            have d0 : w9.cell? ⟨g10, 0, none⟩ = some (.int .u64 (u0 : Int)) := by rw [cell_of_row _ _ _ _ _ (0, 0) HT2.out]; rfl
            have d1 : w9.cell? ⟨g10, 1, none⟩ = some (.int .u64 (u1 : Int)) := by rw [cell_of_row _ _ _ _ _ (0, 0) HT2.out]; rfl
            have d2 : w9.cell? ⟨g10, 2, none⟩ = some (.int .u64 (u2 : Int)) := by rw [cell_of_row _ _ _ _ _ (0, 0) HT2.out]; rfl
            have d3 : w9.cell? ⟨g10, 3, none⟩ = some (.int .u64 (u3 : Int)) := by rw [cell_of_row _ _ _ _ _ (0, 0) HT2.out]; rfl
            have d6 : w9.cell? ⟨g10, 6, none⟩ = some (.int .i64 (next : Int)) := by rw [cell_of_row _ _ _ _ _ (0, 0) HT2.out]; rfl
            have HD := Lib.hid ((HN2.out.below (Below.refl _ w9).drew).done #[.int .u64 (u0 : Int), .int .u64 (u1 : Int), .int .u64 (u2 : Int), .int .u64 (u3 : Int)] (faC 0 0))
            go_upto_region 8 with fail
            refine wp_region_held_drew (S := fun w' => w'.cell? ⟨g10, 0, none⟩ = some (.int .u64 (u0 : Int)) ∧ w'.cell? ⟨g10, 1, none⟩ = some (.int .u64 (u1 : Int)) ∧ w'.cell? ⟨g10, 2, none⟩ = some (.int .u64 (u2 : Int)) ∧ w'.cell? ⟨g10, 3, none⟩ = some (.int .u64 (u3 : Int)) ∧ w'.cell? ⟨g10, 6, none⟩ = some (.int .i64 (next : Int))) (by kernel_rfl) ⟨d0, d1, d2, d3, d6⟩ (fun hHeld => ?_)
            refine wpAnyH_take (i := 0) (v := .pointer (some ⟨g10, 0, none⟩)) rfl (by kernel_rfl) (by kernel_rfl) (by kernel_rfl) (fun _ _ _ h => h) (Or.inl ⟨by rfl, by intro w hSw; (try dsimp only at hSw); go_simp⟩) (by assumption) ?_
            simp only [Act.put, List.getElem_toArray, List.getElem_cons_zero, List.setIfInBounds_toArray, List.set_cons_zero, List.set_cons_succ]
            refine wpAnyH_take (i := 1) (v := .agg #[.int .u64 (u0 : Int), .int .u64 (u1 : Int), .int .u64 (u2 : Int), .int .u64 (u3 : Int)]) rfl (by kernel_rfl) (by kernel_rfl) (by kernel_rfl) (fun _ _ _ h => h) (Or.inl ⟨by rfl, by intro w hSw; (try dsimp only at hSw); go_simp⟩) (by assumption) ?_
            simp only [Act.put, List.getElem_toArray, List.getElem_cons_zero, List.getElem_cons_succ, List.setIfInBounds_toArray, List.set_cons_zero, List.set_cons_succ]
            refine wpAnyH_take (i := 2) (v := .pointer (some ⟨g10, 6, none⟩)) rfl (by kernel_rfl) (by kernel_rfl) (by kernel_rfl) (fun _ _ _ h => h) (Or.inl ⟨by rfl, by intro w hSw; (try dsimp only at hSw); go_simp⟩) (by assumption) ?_
            simp only [Act.put, List.getElem_toArray, List.getElem_cons_zero, List.getElem_cons_succ, List.setIfInBounds_toArray, List.set_cons_zero, List.set_cons_succ]
            refine wpAnyH_take (i := 3) (v := .int .i64 (next : Int)) rfl (by kernel_rfl) (by kernel_rfl) (by kernel_rfl) (fun _ _ _ h => h) (Or.inl ⟨by rfl, by intro w hSw; (try dsimp only at hSw); go_simp⟩) (by assumption) ?_
            simp only [Act.put, List.getElem_toArray, List.getElem_cons_zero, List.getElem_cons_succ, List.setIfInBounds_toArray, List.set_cons_zero, List.set_cons_succ]
            refine wpAnyH_take (i := 4) (v := .agg zFa) rfl (by kernel_rfl) (by kernel_rfl) (by kernel_rfl) (fun _ _ _ h => h) (Or.inl ⟨by rfl, by intro w hSw; (try dsimp only at hSw); go_simp⟩) (by assumption) ?_
            simp only [Act.put, List.getElem_toArray, List.getElem_cons_zero, List.getElem_cons_succ, List.setIfInBounds_toArray, List.set_cons_zero, List.set_cons_succ]
            refine wpAnyH_ready (rs := [5]) (by kernel_rfl) (by simp) ?_
            refine AllReadyH.cons rfl (fun K hK => ?_) AllReadyH.nil
            refine wp_store_row TCl _ _ rfl g6 #[.int .u64 (u0 : Int), .int .u64 (u1 : Int), .int .u64 (u2 : Int), .int .u64 (u3 : Int)] rfl rfl TCl zCl HN2.out.h6 infoCl rfl (by kernel_rfl) ?_
            refine hK.out _ _ ⟨setRow_cell hHeld.1 NE10.out.1, setRow_cell hHeld.2.1 NE10.out.1, setRow_cell hHeld.2.2.1 NE10.out.1, setRow_cell hHeld.2.2.2.1 NE10.out.1, setRow_cell hHeld.2.2.2.2 NE10.out.1⟩ (fun hHeld => ?_)
            clear hK K
            refine wpAnyH_take (i := 6) (v := .int .i64 (next : Int)) rfl (by kernel_rfl) (by kernel_rfl) (by kernel_rfl) (fun _ _ _ h => h) (Or.inl ⟨by rfl, by intro w hSw; (try dsimp only at hSw); go_simp⟩) (by assumption) ?_
            simp only [Act.put, List.getElem_toArray, List.getElem_cons_zero, List.getElem_cons_succ, List.setIfInBounds_toArray, List.set_cons_zero, List.set_cons_succ]
            refine wpAnyH_ready (rs := [7]) (by kernel_rfl) (by simp) ?_
            refine AllReadyH.cons rfl (fun K hK => ?_) AllReadyH.nil
            refine wp_store_row TFa _ _ rfl g8 (faC 0 0) rfl rfl TFa zFa HD.out.2.2.2 infoFa rfl (by kernel_rfl) ?_
            refine hK.out _ _ ⟨setRow_cell hHeld.1 NE10.out.2, setRow_cell hHeld.2.1 NE10.out.2, setRow_cell hHeld.2.2.1 NE10.out.2, setRow_cell hHeld.2.2.2.1 NE10.out.2, setRow_cell hHeld.2.2.2.2 NE10.out.2⟩ (fun hHeld => ?_)
            clear hK K
            refine wpAnyH_done (by kernel_rfl) ?_ _
            go_wp2_with fail
            exact ret_item (p := 6) (q := 8) (r := 7) rfl rfl HD.out.2.1 Tryd.underlying28 rfl infoCl rfl HD.out.2.2.1 Tryd.underlying83 rfl infoFa rfl (ok_post HEQ.out HD.out.1)
          | false =>
            rw [H45.out, h93, if_neg (by decide)] at HIT
            clear h93
            have c0 := HN2.out.rd.c0
            have c1 := HN2.out.rd.c1
            have x6 : w9.cell? ⟨g10, 6, none⟩ = some (.int .i64 (next : Int)) := by rw [cell_of_row _ _ _ _ _ (0, 0) HT2.out]; rfl
            go_wp2_with fail
            refine (over_any w9 a n c op (next + 1) l HN2.out.rd.sm).mono ?_
            rintro e wa ⟨rfl, hb⟩
            have HN := Lib.hid (HN2.out.below hb)
            have HF := Lib.hid (heap_b hb HF2.out)
            have HT := Lib.hid (heap_b hb HT2.out)
            have HG := Lib.hid (heap_b hb HG2.out)
            clear c0 c1 x6 hb HN2 HF2 HT2 HG2
            cases hov : over l (next + 1) with
            | true =>
              have HEQ : Hid (itemM l op i first = .bad 32 op) := Lib.hid (by rw [HIT.out, hov]; rfl)
              clear hov HIT
              have c0 := HN.out.rd.c0
              have c1 := HN.out.rd.c1
              go_wp2_with fail
              refine (unclosed_any wa a n c op).mono ?_
              rintro e wb ⟨rfl, hb⟩
              have HNB := Lib.hid (HN.out.below hb)
              have HD := Lib.hid (HNB.out.done zCl (faC 32 op))
              clear c0 c1 hb HN HF HT HG
              go_wp2_with (first | (refine wpList_store_row rfl TCl (.tmp 6) (.tmp 71) rfl rfl g6 TCl zCl zCl rfl rfl HNB.out.h6 rfl infoCl (by decide) ?_) | (refine wpList_store_row rfl TFa (.tmp 8) (.tmp 73) rfl rfl g8 TFa zFa (faC 32 op) rfl rfl HD.out.2.2.2 rfl infoFa (faC_one _ _) ?_))
              exact ret_item (p := 6) (q := 8) (r := 7) rfl rfl HD.out.2.1 Tryd.underlying28 rfl infoCl rfl HD.out.2.2.1 Tryd.underlying83 rfl infoFa rfl (bad_post HEQ.out HD.out.1)
            | false =>
              have hnn : next + 1 < n := by
                unfold over at hov
                have := of_decide_eq_false hov
                rw [HL.out] at this
                omega
              rw [hov, if_neg (by decide)] at HIT
              clear hov
              have x4 : wa.cell? ⟨g10, 4, none⟩ = some (.bool fin) := by rw [cell_of_row _ _ _ _ _ (0, 0) HT.out]; rfl
              cases fin with
              | false =>
                have HEQ : Hid (itemM l op i first = .bad 30 i) := Lib.hid (by rw [HIT.out]; rfl)
                clear HIT
                have d0 : wa.cell? ⟨g9, 0, none⟩ = some (.int .i64 30) := by rw [cell_of_row _ _ _ _ _ (0, 0) HF.out]; rfl
                have d1 : wa.cell? ⟨g9, 1, none⟩ = some (.int .i64 (i : Int)) := by rw [cell_of_row _ _ _ _ _ (0, 0) HF.out]; rfl
                have HD := Lib.hid ((HN.out.below (Below.refl _ wa).drew).done zCl (faC 30 i))
                go_upto_region 12 with fail
                clear x4
                refine wp_region_held_drew (S := fun w' => w'.cell? ⟨g9, 0, none⟩ = some (.int .i64 30) ∧ w'.cell? ⟨g9, 1, none⟩ = some (.int .i64 (i : Int))) (by kernel_rfl) (And.intro d0 d1) (fun hHeld => ?_)
                refine wpAnyH_take (i := 0) (v := .agg zCl) rfl (by kernel_rfl) (by kernel_rfl) (by kernel_rfl) (fun _ _ _ h => h) (Or.inl ⟨by rfl, by intro w hSw; (try dsimp only at hSw); go_simp⟩) (by assumption) ?_
                simp only [Act.put, List.getElem_toArray, List.getElem_cons_zero, List.setIfInBounds_toArray, List.set_cons_zero, List.set_cons_succ]
                refine wpAnyH_take (i := 1) (v := .agg #[.int .i64 30, .int .i64 (i : Int)]) rfl (by kernel_rfl) (by kernel_rfl) (by kernel_rfl) (fun _ _ _ h => h) (Or.inl ⟨by rfl, by intro w hSw; (try dsimp only at hSw); go_simp⟩) (by assumption) ?_
                simp only [Act.put, List.getElem_toArray, List.getElem_cons_zero, List.getElem_cons_succ, List.setIfInBounds_toArray, List.set_cons_zero, List.set_cons_succ]
                refine wpAnyH_ready (rs := [2]) (by kernel_rfl) (by simp) ?_
                refine AllReadyH.cons rfl (fun K hK => ?_) AllReadyH.nil
                refine wp_store_row TCl _ _ rfl g6 zCl rfl rfl TCl zCl HN.out.h6 infoCl rfl (by kernel_rfl) ?_
                refine hK.out _ _ ⟨setRow_cell hHeld.1 HNE.out.1, setRow_cell hHeld.2 HNE.out.1⟩ (fun hHeld => ?_)
                clear hK K
                refine wpAnyH_take (i := 3) (v := .int .i64 0) rfl (by kernel_rfl) (by kernel_rfl) (by kernel_rfl) (fun _ _ _ h => h) (Or.inl ⟨by rfl, by intro w hSw; (try dsimp only at hSw); go_simp⟩) (by assumption) ?_
                simp only [Act.put, List.getElem_toArray, List.getElem_cons_zero, List.getElem_cons_succ, List.setIfInBounds_toArray, List.set_cons_zero, List.set_cons_succ]
                refine wpAnyH_ready (rs := [4]) (by kernel_rfl) (by simp) ?_
                refine AllReadyH.cons rfl (fun K hK => ?_) AllReadyH.nil
                refine wp_store_row TFa _ _ rfl g8 (faC 30 i) rfl rfl TFa zFa HD.out.2.2.2 infoFa rfl (by kernel_rfl) ?_
                refine hK.out _ _ ⟨setRow_cell hHeld.1 HNE.out.2, setRow_cell hHeld.2 HNE.out.2⟩ (fun hHeld => ?_)
                clear hK K
                refine wpAnyH_done (by kernel_rfl) ?_ _
                go_wp2_with fail
                exact ret_item (p := 6) (q := 8) (r := 7) rfl rfl HD.out.2.1 Tryd.underlying28 rfl infoCl rfl HD.out.2.2.1 Tryd.underlying83 rfl infoFa rfl (bad_post HEQ.out HD.out.1)
              | true =>
                rw [if_neg (by decide)] at HIT
                have c0 := HN.out.rd.c0
                have c1 := HN.out.rd.c1
                have x6 : wa.cell? ⟨g10, 6, none⟩ = some (.int .i64 (next : Int)) := by rw [cell_of_row _ _ _ _ _ (0, 0) HT.out]; rfl
                have hok2 := thing_okC l op (next + 1)
                have hbd2 := thing_bad l op (next + 1)
                have hvl2 := thing_val l HM.out op (next + 1)
                have hvl := thing_val l HM.out op i
                rw [HTH.out] at hvl
                go_wp2_with fail
                refine (thing_any wa HN.out.rd.br a n c op (next + 1) l HN.out.rd.sm).mono ?_
                rintro e wb ⟨rfl, hb⟩
                have HNb := Lib.hid (HN.out.below hb)
                have HFb := Lib.hid (heap_b hb HF.out)
                have HTb := Lib.hid (heap_b hb HT.out)
                have HGb := Lib.hid (heap_b hb HG.out)
                clear c0 c1 x6 x4 hb HN HF HT HG
                cases hth2 : thingM l op (next + 1) with
                | bad e2 p2 =>
                  rw [hth2] at HIT hbd2
                  clear hok2 hvl2 hvl hth2
                  rw [trV_bad]
                  have HNc := Lib.hid (HNb.out.below (box1 wb (.cells zTh TTh)))
                  have HGc := Lib.hid (heap_b (box1 wb (.cells zTh TTh)) HGb.out)
                  have HNd := Lib.hid (HNc.out.row NE11.out N1011.out.2.1 N1011.out.2.2 (faC e2 p2))
                  have HGd := Lib.hid (setRow_heap (wb.alloc (.cells zTh TTh)) g11 _ (faC e2 p2) TFa _ HGc.out)
                  go_upto_region 14 with (refine wpList_store_row rfl TFa (.tmp 11) (.tmp 86) rfl rfl g11 TFa zFa (faC e2 p2) rfl rfl HGc.out rfl infoFa (faC_one _ _) ?_)
                  generalize (wb.alloc (.cells zTh TTh)).setRow g11 (faC e2 p2) = wd at HNd HGd ⊢
                  have hen : ((e2 : Int) != 0) = true := by rcases hbd2 with h | h | h <;> rw [h] <;> rfl
                  have HEQ : Hid (itemM l op i first = .bad e2 p2) := HIT
                  clear hbd2 HIT HNc HGc HNb HFb HTb HGb
                  have d0 : wd.cell? ⟨g11, 0, none⟩ = some (.int .i64 (e2 : Int)) := by rw [cell_of_row _ _ _ _ _ (0, 0) HGd.out]; rfl
                  have d1 : wd.cell? ⟨g11, 1, none⟩ = some (.int .i64 (p2 : Int)) := by rw [cell_of_row _ _ _ _ _ (0, 0) HGd.out]; rfl
                  have HD := Lib.hid ((HNd.out.below (Below.refl _ wd).drew).done zCl (faC e2 p2))
                  go_upto_region 15 with fail
                  refine wp_region_held_drew (S := fun w' => w'.cell? ⟨g11, 0, none⟩ = some (.int .i64 (e2 : Int)) ∧ w'.cell? ⟨g11, 1, none⟩ = some (.int .i64 (p2 : Int))) (by kernel_rfl) (And.intro d0 d1) (fun hHeld => ?_)
                  refine wpAnyH_take (i := 0) (v := .agg zCl) rfl (by kernel_rfl) (by kernel_rfl) (by kernel_rfl) (fun _ _ _ h => h) (Or.inl ⟨by rfl, by intro w hSw; (try dsimp only at hSw); go_simp⟩) (by assumption) ?_
                  simp only [Act.put, List.getElem_toArray, List.getElem_cons_zero, List.setIfInBounds_toArray, List.set_cons_zero, List.set_cons_succ]
                  refine wpAnyH_take (i := 1) (v := .agg #[.int .i64 (e2 : Int), .int .i64 (p2 : Int)]) rfl (by kernel_rfl) (by kernel_rfl) (by kernel_rfl) (fun _ _ _ h => h) (Or.inl ⟨by rfl, by intro w hSw; (try dsimp only at hSw); go_simp⟩) (by assumption) ?_
                  simp only [Act.put, List.getElem_toArray, List.getElem_cons_zero, List.getElem_cons_succ, List.setIfInBounds_toArray, List.set_cons_zero, List.set_cons_succ]
                  refine wpAnyH_ready (rs := [2]) (by kernel_rfl) (by simp) ?_
                  refine AllReadyH.cons rfl (fun K hK => ?_) AllReadyH.nil
                  refine wp_store_row TCl _ _ rfl g6 zCl rfl rfl TCl zCl HNd.out.h6 infoCl rfl (by kernel_rfl) ?_
                  refine hK.out _ _ ⟨setRow_cell hHeld.1 NE11.out.1, setRow_cell hHeld.2 NE11.out.1⟩ (fun hHeld => ?_)
                  clear hK K
                  refine wpAnyH_take (i := 3) (v := .int .i64 0) rfl (by kernel_rfl) (by kernel_rfl) (by kernel_rfl) (fun _ _ _ h => h) (Or.inl ⟨by rfl, by intro w hSw; (try dsimp only at hSw); go_simp⟩) (by assumption) ?_
                  simp only [Act.put, List.getElem_toArray, List.getElem_cons_zero, List.getElem_cons_succ, List.setIfInBounds_toArray, List.set_cons_zero, List.set_cons_succ]
                  refine wpAnyH_ready (rs := [4]) (by kernel_rfl) (by simp) ?_
                  refine AllReadyH.cons rfl (fun K hK => ?_) AllReadyH.nil
                  refine wp_store_row TFa _ _ rfl g8 (faC e2 p2) rfl rfl TFa zFa HD.out.2.2.2 infoFa rfl (by kernel_rfl) ?_
                  refine hK.out _ _ ⟨setRow_cell hHeld.1 NE11.out.2, setRow_cell hHeld.2 NE11.out.2⟩ (fun hHeld => ?_)
                  clear hK K
                  refine wpAnyH_done (by kernel_rfl) ?_ _
                  go_wp2_with fail
                  exact ret_item (p := 6) (q := 8) (r := 7) rfl rfl HD.out.2.1 Tryd.underlying28 rfl infoCl rfl HD.out.2.2.1 Tryd.underlying83 rfl infoFa rfl (bad_post HEQ.out HD.out.1)
                | ok s2 fin2 v2 next2 =>
                  obtain ⟨x0, x1, x2, x3, hx⟩ := isC_words s2 (by rw [hth2] at hok2; exact hok2)
                  subst hx
                  rw [hth2] at HIT hvl2
                  clear hok2 hbd2 hth2
                  rw [trV_ok]
                  have hbx := box1 wb (.cells #[.int .u64 (x0 : Int), .int .u64 (x1 : Int), .int .u64 (x2 : Int), .int .u64 (x3 : Int), .bool fin2, .int .u8 v2, .int .i64 (next2 : Int)] TTh)
                  have HNc := Lib.hid (HNb.out.below hbx)
                  have HGc := Lib.hid (heap_b hbx HGb.out)
                  have HFc := Lib.hid (heap_b hbx HFb.out)
                  have HTc := Lib.hid (heap_b hbx HTb.out)
                  have H12 := Lib.hid (heap_alloc_new wb (.cells #[.int .u64 (x0 : Int), .int .u64 (x1 : Int), .int .u64 (x2 : Int), .int .u64 (x3 : Int), .bool fin2, .int .u8 v2, .int .i64 (next2 : Int)] TTh))
                  clear hbx
                  go_upto_region 14 with (refine wpList_store_row rfl TFa (.tmp 11) (.tmp 86) rfl rfl g11 TFa zFa (faC 0 0) rfl rfl HGc.out rfl infoFa (faC_one _ _) ?_)
                  obtain ⟨g12, hg12⟩ : ∃ g12, wb.heap.size = g12 := ⟨_, rfl⟩
                  have h6 := (Array.getElem?_eq_some_iff.1 HNb.out.h6).1
                  have h8 := (Array.getElem?_eq_some_iff.1 HNb.out.h8).1
                  have h11 := (Array.getElem?_eq_some_iff.1 HGb.out).1
                  have h9 := (Array.getElem?_eq_some_iff.1 HFb.out).1
                  have h10 := (Array.getElem?_eq_some_iff.1 HTb.out).1
                  rw [hg12] at H12 h6 h8 h11 h9 h10 ⊢
                  have NE12 : Hid ((g12 ≠ g6 ∧ g12 ≠ g8) ∧ g12 ≠ g11) := Lib.hid ⟨⟨by omega, by omega⟩, by omega⟩
                  clear h6 h8 h9 h10 h11 hg12
                  have HNd := Lib.hid (HNc.out.row NE11.out N1011.out.2.1 N1011.out.2.2 (faC 0 0))
                  have HGd := Lib.hid (setRow_heap _ g11 _ (faC 0 0) TFa _ HGc.out)
                  have HFd := Lib.hid ((_root_.Go.setRow_other _ g11 g9 (faC 0 0) N9.out).trans HFc.out)
                  have HTd := Lib.hid ((_root_.Go.setRow_other _ g11 g10 (faC 0 0) N1011.out.1).trans HTc.out)
                  have H12d := Lib.hid ((_root_.Go.setRow_other _ g11 g12 (faC 0 0) NE12.out.2).trans H12.out)
                  generalize (wb.alloc (.cells #[.int .u64 (x0 : Int), .int .u64 (x1 : Int), .int .u64 (x2 : Int), .int .u64 (x3 : Int), .bool fin2, .int .u8 v2, .int .i64 (next2 : Int)] TTh)).setRow g11 (faC 0 0) = wd at HNd HGd HFd HTd H12d ⊢
                  clear HNc HGc HFc HTc H12 HNb HFb HTb HGb
                  have k0 : wd.cell? ⟨g11, 0, none⟩ = some (.int .i64 0) := by rw [cell_of_row _ _ _ _ _ (0, 0) HGd.out]; rfl
                  have y4 : wd.cell? ⟨g12, 4, none⟩ = some (.bool fin2) := by rw [cell_of_row _ _ _ _ _ (0, 0) H12d.out]; rfl
                  have y5 : wd.cell? ⟨g12, 5, none⟩ = some (.int .u8 v2) := by rw [cell_of_row _ _ _ _ _ (0, 0) H12d.out]; rfl
                  have z5 : wd.cell? ⟨g10, 5, none⟩ = some (.int .u8 v) := by rw [cell_of_row _ _ _ _ _ (0, 0) HTd.out]; rfl
                  cases fin2 with
                  | false =>
                    have HEQ : Hid (itemM l op i first = .bad 30 i) := Lib.hid (by rw [HIT.out, if_pos (.inl rfl)])
                    clear HIT hvl hvl2
                    have d0 : wd.cell? ⟨g9, 0, none⟩ = some (.int .i64 30) := by rw [cell_of_row _ _ _ _ _ (0, 0) HFd.out]; rfl
                    have d1 : wd.cell? ⟨g9, 1, none⟩ = some (.int .i64 (i : Int)) := by rw [cell_of_row _ _ _ _ _ (0, 0) HFd.out]; rfl
                    have HD := Lib.hid ((HNd.out.below (Below.refl _ wd).drew).done zCl (faC 30 i))
                    go_upto_region 17 with fail
                    refine wp_region_held_drew (S := fun w' => w'.cell? ⟨g9, 0, none⟩ = some (.int .i64 30) ∧ w'.cell? ⟨g9, 1, none⟩ = some (.int .i64 (i : Int))) (by kernel_rfl) (And.intro d0 d1) (fun hHeld => ?_)
                    refine wpAnyH_take (i := 0) (v := .agg zCl) rfl (by kernel_rfl) (by kernel_rfl) (by kernel_rfl) (fun _ _ _ h => h) (Or.inl ⟨by rfl, by intro w hSw; (try dsimp only at hSw); go_simp⟩) (by assumption) ?_
                    simp only [Act.put, List.getElem_toArray, List.getElem_cons_zero, List.setIfInBounds_toArray, List.set_cons_zero, List.set_cons_succ]
                    refine wpAnyH_take (i := 1) (v := .agg #[.int .i64 30, .int .i64 (i : Int)]) rfl (by kernel_rfl) (by kernel_rfl) (by kernel_rfl) (fun _ _ _ h => h) (Or.inl ⟨by rfl, by intro w hSw; (try dsimp only at hSw); go_simp⟩) (by assumption) ?_
                    simp only [Act.put, List.getElem_toArray, List.getElem_cons_zero, List.getElem_cons_succ, List.setIfInBounds_toArray, List.set_cons_zero, List.set_cons_succ]
                    refine wpAnyH_ready (rs := [2]) (by kernel_rfl) (by simp) ?_
                    refine AllReadyH.cons rfl (fun K hK => ?_) AllReadyH.nil
                    refine wp_store_row TCl _ _ rfl g6 zCl rfl rfl TCl zCl HNd.out.h6 infoCl rfl (by kernel_rfl) ?_
                    refine hK.out _ _ ⟨setRow_cell hHeld.1 HNE.out.1, setRow_cell hHeld.2 HNE.out.1⟩ (fun hHeld => ?_)
                    clear hK K
                    refine wpAnyH_take (i := 3) (v := .int .i64 0) rfl (by kernel_rfl) (by kernel_rfl) (by kernel_rfl) (fun _ _ _ h => h) (Or.inl ⟨by rfl, by intro w hSw; (try dsimp only at hSw); go_simp⟩) (by assumption) ?_
                    simp only [Act.put, List.getElem_toArray, List.getElem_cons_zero, List.getElem_cons_succ, List.setIfInBounds_toArray, List.set_cons_zero, List.set_cons_succ]
                    refine wpAnyH_ready (rs := [4]) (by kernel_rfl) (by simp) ?_
                    refine AllReadyH.cons rfl (fun K hK => ?_) AllReadyH.nil
                    refine wp_store_row TFa _ _ rfl g8 (faC 30 i) rfl rfl TFa zFa HD.out.2.2.2 infoFa rfl (by kernel_rfl) ?_
                    refine hK.out _ _ ⟨setRow_cell hHeld.1 HNE.out.2, setRow_cell hHeld.2 HNE.out.2⟩ (fun hHeld => ?_)
                    clear hK K
                    refine wpAnyH_done (by kernel_rfl) ?_ _
                    go_wp2_with fail
                    exact ret_item (p := 6) (q := 8) (r := 7) rfl rfl HD.out.2.1 Tryd.underlying28 rfl infoCl rfl HD.out.2.2.1 Tryd.underlying83 rfl infoFa rfl (bad_post HEQ.out HD.out.1)
                  | true =>
                    by_cases hlt : v2 < v
                    · have hltd : decide (v2 < v) = true := decide_eq_true hlt
                      have HEQ : Hid (itemM l op i first = .bad 30 i) := Lib.hid (by rw [HIT.out, if_pos (.inr hlt)])
                      clear HIT hvl hvl2 hlt
                      have d0 : wd.cell? ⟨g9, 0, none⟩ = some (.int .i64 30) := by rw [cell_of_row _ _ _ _ _ (0, 0) HFd.out]; rfl
                      have d1 : wd.cell? ⟨g9, 1, none⟩ = some (.int .i64 (i : Int)) := by rw [cell_of_row _ _ _ _ _ (0, 0) HFd.out]; rfl
                      have HD := Lib.hid ((HNd.out.below (Below.refl _ wd).drew).done zCl (faC 30 i))
                      go_upto_region 17 with fail
                      refine wp_region_held_drew (S := fun w' => w'.cell? ⟨g9, 0, none⟩ = some (.int .i64 30) ∧ w'.cell? ⟨g9, 1, none⟩ = some (.int .i64 (i : Int))) (by kernel_rfl) (And.intro d0 d1) (fun hHeld => ?_)
                      refine wpAnyH_take (i := 0) (v := .agg zCl) rfl (by kernel_rfl) (by kernel_rfl) (by kernel_rfl) (fun _ _ _ h => h) (Or.inl ⟨by rfl, by intro w hSw; (try dsimp only at hSw); go_simp⟩) (by assumption) ?_
                      simp only [Act.put, List.getElem_toArray, List.getElem_cons_zero, List.setIfInBounds_toArray, List.set_cons_zero, List.set_cons_succ]
                      refine wpAnyH_take (i := 1) (v := .agg #[.int .i64 30, .int .i64 (i : Int)]) rfl (by kernel_rfl) (by kernel_rfl) (by kernel_rfl) (fun _ _ _ h => h) (Or.inl ⟨by rfl, by intro w hSw; (try dsimp only at hSw); go_simp⟩) (by assumption) ?_
                      simp only [Act.put, List.getElem_toArray, List.getElem_cons_zero, List.getElem_cons_succ, List.setIfInBounds_toArray, List.set_cons_zero, List.set_cons_succ]
                      refine wpAnyH_ready (rs := [2]) (by kernel_rfl) (by simp) ?_
                      refine AllReadyH.cons rfl (fun K hK => ?_) AllReadyH.nil
                      refine wp_store_row TCl _ _ rfl g6 zCl rfl rfl TCl zCl HNd.out.h6 infoCl rfl (by kernel_rfl) ?_
                      refine hK.out _ _ ⟨setRow_cell hHeld.1 HNE.out.1, setRow_cell hHeld.2 HNE.out.1⟩ (fun hHeld => ?_)
                      clear hK K
                      refine wpAnyH_take (i := 3) (v := .int .i64 0) rfl (by kernel_rfl) (by kernel_rfl) (by kernel_rfl) (fun _ _ _ h => h) (Or.inl ⟨by rfl, by intro w hSw; (try dsimp only at hSw); go_simp⟩) (by assumption) ?_
                      simp only [Act.put, List.getElem_toArray, List.getElem_cons_zero, List.getElem_cons_succ, List.setIfInBounds_toArray, List.set_cons_zero, List.set_cons_succ]
                      refine wpAnyH_ready (rs := [4]) (by kernel_rfl) (by simp) ?_
                      refine AllReadyH.cons rfl (fun K hK => ?_) AllReadyH.nil
                      refine wp_store_row TFa _ _ rfl g8 (faC 30 i) rfl rfl TFa zFa HD.out.2.2.2 infoFa rfl (by kernel_rfl) ?_
                      refine hK.out _ _ ⟨setRow_cell hHeld.1 HNE.out.2, setRow_cell hHeld.2 HNE.out.2⟩ (fun hHeld => ?_)
                      clear hK K
                      refine wpAnyH_done (by kernel_rfl) ?_ _
                      go_wp2_with fail
                      exact ret_item (p := 6) (q := 8) (r := 7) rfl rfl HD.out.2.1 Tryd.underlying28 rfl infoCl rfl HD.out.2.2.1 Tryd.underlying83 rfl infoFa rfl (bad_post HEQ.out HD.out.1)
                    · have hltd : decide (v2 < v) = false := decide_eq_false hlt
                      have HEQ0 : Hid (itemM l op i first = .ok (rangeL v.toNat v2.toNat) false 0 next2) := Lib.hid (by rw [HIT.out, if_neg (fun h => h.elim (fun h => by cases h) hlt)])
                      obtain ⟨r0, r1, r2, r3, hr⟩ := isC_words (rangeL v.toNat v2.toNat) (isC_rangeL4 _ _)
                      rw [hr] at HEQ0
                      have HEQ := HEQ0
                      have HRG := Lib.hid hr
                      obtain ⟨q0, q1⟩ := hvl
                      obtain ⟨q2, q3⟩ := hvl2
                      have HV := Lib.hid (show (v.toNat : Int) = v by omega)
                      have HV2 := Lib.hid (show (v2.toNat : Int) = v2 by omega)
                      have HQ4 := Lib.hid (show v.toNat < 256 ∧ v2.toNat < 256 by omega)
                      have y6 : wd.cell? ⟨g12, 6, none⟩ = some (.int .i64 (next2 : Int)) := by rw [cell_of_row _ _ _ _ _ (0, 0) H12d.out]; rfl
                      clear HIT HEQ0 hlt hr
                      go_upto_region 18 with fail
                      have HRC : Hid (∀ W, Calls Tryd.prog 24 #[.int .u8 v, .int .u8 v2] W fun e w' => e = .returned (.agg #[.int .u64 (r0 : Int), .int .u64 (r1 : Int), .int .u64 (r2 : Int), .int .u64 (r3 : Int)]) ∧ Below W.heap.size W w') := Lib.hid (fun W => by
                        have h := range_any W v.toNat v2.toNat HQ4.out.1 HQ4.out.2
                        rw [HV.out, HV2.out, HRG.out] at h
                        exact h)
                      clear hltd q0 q1 q2 q3 k0 y4
                      refine wp_region_held_drew (S := fun w' => w'.cell? ⟨g10, 5, none⟩ = some (.int .u8 v) ∧ w'.cell? ⟨g12, 5, none⟩ = some (.int .u8 v2) ∧ w'.cell? ⟨g12, 6, none⟩ = some (.int .i64 (next2 : Int))) (by kernel_rfl) ⟨z5, y5, y6⟩ (fun hHeld => ?_)
                      refine wpAnyH_take (i := 0) (v := .pointer (some ⟨g10, 5, none⟩)) rfl (by kernel_rfl) (by kernel_rfl) (by kernel_rfl) (fun _ _ _ h => h) (Or.inl ⟨by rfl, by intro w hSw; (try dsimp only at hSw); go_simp⟩) (by assumption) ?_
                      simp only [Act.put, List.getElem_toArray, List.getElem_cons_zero, List.setIfInBounds_toArray, List.set_cons_zero, List.set_cons_succ]
                      refine wpAnyH_take (i := 1) (v := .int .u8 v) rfl (by kernel_rfl) (by kernel_rfl) (by kernel_rfl) (fun _ _ _ h => h) (Or.inl ⟨by rfl, by intro w hSw; (try dsimp only at hSw); go_simp⟩) (by assumption) ?_
                      simp only [Act.put, List.getElem_toArray, List.getElem_cons_zero, List.getElem_cons_succ, List.setIfInBounds_toArray, List.set_cons_zero, List.set_cons_succ]
                      refine wpAnyH_take (i := 2) (v := .pointer (some ⟨g12, 5, none⟩)) rfl (by kernel_rfl) (by kernel_rfl) (by kernel_rfl) (fun _ _ _ h => h) (Or.inl ⟨by rfl, by intro w hSw; (try dsimp only at hSw); go_simp⟩) (by assumption) ?_
                      simp only [Act.put, List.getElem_toArray, List.getElem_cons_zero, List.getElem_cons_succ, List.setIfInBounds_toArray, List.set_cons_zero, List.set_cons_succ]
                      refine wpAnyH_take (i := 3) (v := .int .u8 v2) rfl (by kernel_rfl) (by kernel_rfl) (by kernel_rfl) (fun _ _ _ h => h) (Or.inl ⟨by rfl, by intro w hSw; (try dsimp only at hSw); go_simp⟩) (by assumption) ?_
                      simp only [Act.put, List.getElem_toArray, List.getElem_cons_zero, List.getElem_cons_succ, List.setIfInBounds_toArray, List.set_cons_zero, List.set_cons_succ]
                      refine wpAnyH_take (i := 5) (v := .pointer (some ⟨g12, 6, none⟩)) rfl (by kernel_rfl) (by kernel_rfl) (by kernel_rfl) (fun _ _ _ h => h) (Or.inl ⟨by rfl, by intro w hSw; (try dsimp only at hSw); go_simp⟩) (by assumption) ?_
                      simp only [Act.put, List.getElem_toArray, List.getElem_cons_zero, List.getElem_cons_succ, List.setIfInBounds_toArray, List.set_cons_zero, List.set_cons_succ]
                      refine wpAnyH_take (i := 6) (v := .int .i64 (next2 : Int)) rfl (by kernel_rfl) (by kernel_rfl) (by kernel_rfl) (fun _ _ _ h => h) (Or.inl ⟨by rfl, by intro w hSw; (try dsimp only at hSw); go_simp⟩) (by assumption) ?_
                      simp only [Act.put, List.getElem_toArray, List.getElem_cons_zero, List.getElem_cons_succ, List.setIfInBounds_toArray, List.set_cons_zero, List.set_cons_succ]
                      refine wpAnyH_take (i := 7) (v := .agg zFa) rfl (by kernel_rfl) (by kernel_rfl) (by kernel_rfl) (fun _ _ _ h => h) (Or.inl ⟨by rfl, by intro w hSw; (try dsimp only at hSw); go_simp⟩) (by assumption) ?_
                      simp only [Act.put, List.getElem_toArray, List.getElem_cons_zero, List.getElem_cons_succ, List.setIfInBounds_toArray, List.set_cons_zero, List.set_cons_succ]
                      refine wpAnyH_ready (rs := [4]) (by kernel_rfl) (by simp) ?_
                      refine AllReadyH.cons rfl (fun K hK => ?_) AllReadyH.nil
                      go_simp
                      refine (HRC.out _).mono ?_
                      rintro e wn ⟨rfl, hbn⟩
                      have HNn := Lib.hid ((HNd.out.below (Below.refl _ wd).drew).below hbn)
                      refine hK.out _ _ ⟨cell_b hbn hHeld.1, cell_b hbn hHeld.2.1, cell_b hbn hHeld.2.2⟩ (fun hHeld => ?_)
                      clear hK K hbn
                      have HD := Lib.hid (HNn.out.done #[.int .u64 (r0 : Int), .int .u64 (r1 : Int), .int .u64 (r2 : Int), .int .u64 (r3 : Int)] (faC 0 0))
                      refine wpAnyH_ready (rs := [8]) (by kernel_rfl) (by simp) ?_
                      refine AllReadyH.cons rfl (fun K hK => ?_) AllReadyH.nil
                      refine wp_store_row TCl _ _ rfl g6 #[.int .u64 (r0 : Int), .int .u64 (r1 : Int), .int .u64 (r2 : Int), .int .u64 (r3 : Int)] rfl rfl TCl zCl HNn.out.h6 infoCl rfl (by kernel_rfl) ?_
                      refine hK.out _ _ ⟨setRow_cell hHeld.1 NE10.out.1, setRow_cell hHeld.2.1 NE12.out.1.1, setRow_cell hHeld.2.2 NE12.out.1.1⟩ (fun hHeld => ?_)
                      clear hK K
                      refine wpAnyH_take (i := 9) (v := .int .i64 (next2 : Int)) rfl (by kernel_rfl) (by kernel_rfl) (by kernel_rfl) (fun _ _ _ h => h) (Or.inl ⟨by rfl, by intro w hSw; (try dsimp only at hSw); go_simp⟩) (by assumption) ?_
                      simp only [Act.put, List.getElem_toArray, List.getElem_cons_zero, List.getElem_cons_succ, List.setIfInBounds_toArray, List.set_cons_zero, List.set_cons_succ]
                      refine wpAnyH_ready (rs := [10]) (by kernel_rfl) (by simp) ?_
                      refine AllReadyH.cons rfl (fun K hK => ?_) AllReadyH.nil
                      refine wp_store_row TFa _ _ rfl g8 (faC 0 0) rfl rfl TFa zFa HD.out.2.2.2 infoFa rfl (by kernel_rfl) ?_
                      refine hK.out _ _ ⟨setRow_cell hHeld.1 NE10.out.2, setRow_cell hHeld.2.1 NE12.out.1.2, setRow_cell hHeld.2.2 NE12.out.1.2⟩ (fun hHeld => ?_)
                      clear hK K
                      refine wpAnyH_done (by kernel_rfl) ?_ _
                      go_wp2_with fail
                      exact ret_item (p := 6) (q := 8) (r := 7) rfl rfl HD.out.2.1 Tryd.underlying28 rfl infoCl rfl HD.out.2.2.1 Tryd.underlying83 rfl infoFa rfl (ok_post HEQ.out HD.out.1)
end Go.Proofs.YthegepiafodpjaaDoor
