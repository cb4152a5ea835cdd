/-
  galleyref04: item.
-/
import Derived.Test.YthegepiafodpjaaDoorBrF
import Derived.Test.YthegepiafodpjaaDoorBrI
namespace Go.Proofs.YthegepiafodpjaaDoor
open Go.RowKit

theorem thing_at (l : List Mk) (op i : Nat) (e p : Nat) (h : thingM l op i = .bad e p) (he : e ≠ 32) : p = i := by
  have hnm : ∀ (f k : Nat) (text : List Int), nameM l op i f k text = .bad e p → p = i := by
    intro f
    induction f with
    | zero => intro k text h; unfold nameM at h; simp only [TR.bad.injEq] at h; exact absurd h.1.symm he
    | succ f ih =>
      intro k text h
      unfold nameM at h
      split at h
      · simp only [TR.bad.injEq] at h; exact absurd h.1.symm he
      · split at h
        · split at h
          · simp only [TR.bad.injEq] at h; exact h.2.symm
          · cases h
        · exact ih _ _ h
  unfold thingM at h
  split at h
  · simp only [TR.bad.injEq] at h; exact absurd h.1.symm he
  · split at h
    · exact hnm _ _ _ h
    · split at h
      · cases h
      · split at h
        · simp only [TR.bad.injEq] at h; exact absurd h.1.symm he
        · split at h
          · simp only [TR.bad.injEq] at h; exact h.2.symm
          · split at h
            · simp only [TR.bad.injEq] at h; exact absurd h.1.symm he
            · split at h
              · simp only [TR.bad.injEq] at h; exact h.2.symm
              · cases h
/-- What item tells. -/
def RiPost (w : World) (i : Nat) (r : TR) (e : Ending) (w' : World) : Prop :=
  (match r with
    | .bad er p => ∃ p' : Nat, (er ≠ 32 → p' = p) ∧ e = .returned (.agg (rtC p' 0 false false 0 0 0 0 0 er))
    | .ok set _ _ next => ∃ (fin bare : Bool) (v : Int), e = .returned (.agg (rtC i next fin bare v (set[0]?.getD 0) (set[1]?.getD 0) (set[2]?.getD 0) (set[3]?.getD 0) 0))) ∧ Below w.heap.size w w'
theorem ri_bad {w w' : World} {i er p p' : Nat} {r : TR} (h : r = .bad er p) (hp : er ≠ 32 → p' = p) (hb : Below w.heap.size w w') : RiPost w i r (.returned (.agg (rtC p' 0 false false 0 0 0 0 0 er))) w' := by
  subst h
  exact ⟨⟨p', hp, rfl⟩, hb⟩
theorem ri_ok {w w' : World} {i next u0 u1 u2 u3 : Nat} {fin fin' bare : Bool} {v v' : Int} {r : TR} (h : r = .ok [u0, u1, u2, u3] fin v next) (hb : Below w.heap.size w w') : RiPost w i r (.returned (.agg (rtC i next fin' bare v' u0 u1 u2 u3 0))) w' := by
  subst h
  exact ⟨⟨fin', bare, v', rfl⟩, hb⟩
/-- The result's box, and a box with a thing. -/
structure T2 (w0 w : World) (g g7 : Nat) (cs : Array Value) (a : Option Addr) (n c : Nat) (l : List Mk) : Prop where
  tb : TB w0 w g a n c l
  b7 : w.heap[g7]? = some (.cells cs TRt (0, 0))
  ne : g7 ≠ g
theorem T2.below {w0 w w' : World} {g g7 : Nat} {cs : Array Value} {a : Option Addr} {n c : Nat} {l : List Mk} (h : T2 w0 w g g7 cs a n c l) (hb : Below w.heap.size w w') : T2 w0 w' g g7 cs a n c l :=
  ⟨h.tb.below hb, heap_b hb h.b7, h.ne⟩
theorem T2.new {w0 w : World} {g : Nat} {a : Option Addr} {n c : Nat} {l : List Mk} (h : TB w0 w g a n c l) (cs : Array Value) : T2 w0 (w.alloc (.cells cs TRt)) g w.heap.size cs a n c l :=
  ⟨h.below (box1 _ _), heap_alloc_new w _, by have := (Array.getElem?_eq_some_iff.1 h.box).1; omega⟩
theorem rtC_cells {w : World} {g fr tt u0 u1 u2 u3 er : Nat} {fin bare : Bool} {b : Int} (h : w.heap[g]? = some (.cells (rtC fr tt fin bare b u0 u1 u2 u3 er) TRt (0, 0))) :
    w.cell? ⟨g, 0, none⟩ = some (.int .i64 (fr : Int)) ∧ w.cell? ⟨g, 1, none⟩ = some (.int .i64 (tt : Int)) ∧ w.cell? ⟨g, 2, none⟩ = some (.bool fin) ∧ w.cell? ⟨g, 3, none⟩ = some (.bool bare) ∧ w.cell? ⟨g, 4, none⟩ = some (.int .u8 b) ∧ w.cell? ⟨g, 9, none⟩ = some (.int .i64 (er : Int)) ∧
    w.cell? ⟨g, 5, none⟩ = some (.int .u64 (u0 : Int)) ∧ w.cell? ⟨g, 6, none⟩ = some (.int .u64 (u1 : Int)) ∧ w.cell? ⟨g, 7, none⟩ = some (.int .u64 (u2 : Int)) ∧ w.cell? ⟨g, 8, none⟩ = some (.int .u64 (u3 : Int)) := by
  refine ⟨?_, ?_, ?_, ?_, ?_, ?_, ?_, ?_, ?_, ?_⟩ <;> (rw [cell_of_row _ _ _ _ _ (0, 0) h]; rfl)
theorem rtT_bad (l : List Mk) (i er p : Nat) : rtT l i (.bad er p) = #[.int .i64 (i : Int), .int .i64 0, .bool false, .bool false, .int .u8 0, .int .u64 0, .int .u64 0, .int .u64 0, .int .u64 0, .int .i64 (er : Int)] := rfl
theorem rtT_ok (l : List Mk) (i x0 x1 x2 x3 next : Nat) (fin : Bool) (v : Int) : rtT l i (.ok [x0, x1, x2, x3] fin v next) = #[.int .i64 (i : Int), .int .i64 (next : Int), .bool fin, .bool (sgn l i 45), .int .u8 v, .int .u64 (x0 : Int), .int .u64 (x1 : Int), .int .u64 (x2 : Int), .int .u64 (x3 : Int), .int .i64 0] := rfl
/-- Two boxes with things. -/
structure T3 (w0 w : World) (g g7 g8 : Nat) (cs cs2 : Array Value) (a : Option Addr) (n c : Nat) (l : List Mk) : Prop where
  t2 : T2 w0 w g g7 cs a n c l
  b8 : w.heap[g8]? = some (.cells cs2 TRt (0, 0))
  ne8 : g8 ≠ g ∧ g8 ≠ g7
theorem T3.below {w0 w w' : World} {g g7 g8 : Nat} {cs cs2 : Array Value} {a : Option Addr} {n c : Nat} {l : List Mk} (h : T3 w0 w g g7 g8 cs cs2 a n c l) (hb : Below w.heap.size w w') : T3 w0 w' g g7 g8 cs cs2 a n c l :=
  ⟨h.t2.below hb, heap_b hb h.b8, h.ne8⟩
theorem T3.new {w0 w : World} {g g7 : Nat} {cs : Array Value} {a : Option Addr} {n c : Nat} {l : List Mk} (h : T2 w0 w g g7 cs a n c l) (cs2 : Array Value) : T3 w0 (w.alloc (.cells cs2 TRt)) g g7 w.heap.size cs cs2 a n c l :=
  ⟨h.below (box1 _ _), heap_alloc_new w _, by have := (Array.getElem?_eq_some_iff.1 h.tb.box).1; have := (Array.getElem?_eq_some_iff.1 h.b7).1; omega⟩
theorem rtC_size (fr tt : Nat) (fin bare : Bool) (b : Int) (u0 u1 u2 u3 er : Nat) : (rtC fr tt fin bare b u0 u1 u2 u3 er).size = 10 := rfl

set_option maxHeartbeats 4000000 in
set_option maxRecDepth 100000 in
theorem refItem_any (w : World) (a : Option Addr) (n c op i fs : Nat) (l : List Mk) (h : SM w (.slice a n c) l) (hi : i ≤ n + 4) :
    Calls Tryd.prog 32 #[.slice a n c, .int .i64 (i : Int), .int .i64 (fs : Int)] w (RiPost w i (ritemM l op i (decide (i = fs)))) := by
  obtain ⟨hl, hn⟩ := h.len
  have HL := Lib.hid hl
  have HM := Lib.hid h.1
  have HN := Lib.hid (TB.new h)
  have HRI : Hid (ritemM l op i (decide (i = fs)) = match thingM l op i with
    | .bad e a => .bad e a
    | .ok set fin value next =>
      if (sgn l i 45 && !decide (i = fs) && !sgn l (i + 1) 93) = true then (if over l (i + 1) = true then .bad 32 op else .bad 30 i)
      else if (!sgn l next 45 || over l (next + 1) || sgn l (next + 1) 93) = true then .ok set fin value next
      else if fin = false then .bad 30 i
      else match thingM l op (next + 1) with
        | .bad e a => .bad e a
        | .ok _ fin2 value2 next2 => if fin2 = false ∨ value2 < value then .bad 30 i else .ok (rangeL value.toNat value2.toNat) false 0 next2) := Lib.hid rfl
  obtain ⟨g, hg⟩ : ∃ g, w.heap.size = g := ⟨_, rfl⟩
  rw [hg] at HN
  have HG := Lib.hid hg
  clear h hl
  go_enter Tryd.func32, Tryd.ntmps32
  go_upto_region 1 with fail
  clear hg
  generalize w.alloc (.cells zRt TRt) = w1 at HN ⊢
  go_wp2_with fail
  refine (refThing_any w1 a n c op i l HN.out.sm').mono ?_
  rintro e w2 ⟨rfl, hb⟩
  have HN2 := Lib.hid (HN.out.below hb)
  have HBD := Lib.hid (thing_bad l op i)
  have HAT := Lib.hid (thing_at l op i)
  have HOK := Lib.hid (thing_okC l op i)
  have HVL := Lib.hid (thing_val l HM.out op i)
  have HNX := Lib.hid (thing_next l op i)
  clear hb HN
  cases hth : thingM l op i with
  | bad er p =>
    rw [hth] at HRI HBD HAT
    have HEQ : Hid (ritemM l op i (decide (i = fs)) = .bad er p) := HRI
    have hen : ((er : Int) != 0) = true := by rcases HBD.out with h | h | h <;> rw [h] <;> rfl
    have HPP : Hid (er ≠ 32 → i = p) := Lib.hid (fun h => (HAT.out er p rfl h).symm)
    clear HRI HOK HVL HNX hth
    rw [rtT_bad]
    have HN3 : Hid (T2 w (w2.alloc (.cells #[.int .i64 (i : Int), .int .i64 0, .bool false, .bool false, .int .u8 0, .int .u64 0, .int .u64 0, .int .u64 0, .int .u64 0, .int .i64 (er : Int)] TRt)) g w2.heap.size (rtC i 0 false false 0 0 0 0 0 er) a n c l) := Lib.hid (T2.new HN2.out (rtC i 0 false false 0 0 0 0 0 er))
    go_upto_region 2 with fail
    generalize w2.heap.size = g7 at HN3 ⊢
    generalize w2.alloc (.cells #[.int .i64 (i : Int), .int .i64 0, .bool false, .bool false, .int .u8 0, .int .u64 0, .int .u64 0, .int .u64 0, .int .u64 0, .int .i64 (er : Int)] TRt) = w3 at HN3 ⊢
    obtain ⟨y0, y1, y2, y3, y4, y9, y5, y6, y7, y8⟩ := rtC_cells (HN3.out.b7)
    obtain ⟨q1, q2⟩ := HN3.out.tb.done (rtC i 0 false false 0 0 0 0 0 er)
    have HQ := Lib.hid (And.intro q1 q2)
    clear q1 q2
    go_wp2_with ((refine wpList_store_row rfl TRt (.tmp 6) (.tmp 15) rfl rfl g TRt zRt (rtC i 0 false false 0 0 0 0 0 er) rfl rfl HN3.out.tb.box rfl infoRt (rtC_one _ _ _ _ _ _ _ _ _ _) ?_))
    exact ret_cls rfl rfl HQ.out.2 Tryd.underlying88 rfl infoRt rfl (ri_bad HEQ.out HPP.out HQ.out.1)
  | ok set fin v next =>
    rw [hth] at HRI HOK HVL HNX
    obtain ⟨x0, x1, x2, x3, rfl⟩ := isC_words set HOK.out
    rw [rtT_ok]
    simp only at HRI
    have HN3 : Hid (T2 w (w2.alloc (.cells #[.int .i64 (i : Int), .int .i64 (next : Int), .bool fin, .bool (sgn l i 45), .int .u8 v, .int .u64 (x0 : Int), .int .u64 (x1 : Int), .int .u64 (x2 : Int), .int .u64 (x3 : Int), .int .i64 0] TRt)) g w2.heap.size (rtC i next fin (sgn l i 45) v x0 x1 x2 x3 0) a n c l) := Lib.hid (T2.new HN2.out (rtC i next fin (sgn l i 45) v x0 x1 x2 x3 0))
    have hnx := HNX.out.2
    rw [HL.out] at hnx
    have hnx1 := HNX.out.1
    clear HBD HAT HOK hth
    go_upto_region 4 with fail
    generalize w2.heap.size = g7 at HN3 ⊢
    generalize w2.alloc (.cells #[.int .i64 (i : Int), .int .i64 (next : Int), .bool fin, .bool (sgn l i 45), .int .u8 v, .int .u64 (x0 : Int), .int .u64 (x1 : Int), .int .u64 (x2 : Int), .int .u64 (x3 : Int), .int .i64 0] TRt) = w3 at HN3 ⊢
    obtain ⟨bd, hbd⟩ : ∃ bd, (sgn l i 45 && !decide (i = fs) && !sgn l (i + 1) 93) = bd := ⟨_, rfl⟩
    rw [hbd] at HRI
    have HBDD := Lib.hid hbd
    clear hbd
    go_cut [29] (fun vb wx => vb = .bool bd ∧ T2 w wx g g7 (rtC i next fin (sgn l i 45) v x0 x1 x2 x3 0) a n c l)
    case first =>
      go_upto_region 4 with fail
      obtain ⟨bare, hbare⟩ : ∃ bare, sgn l i 45 = bare := ⟨_, rfl⟩
      have HBARE := Lib.hid hbare
      rw [hbare] at HN3 HBDD
      clear hbare
      cases bare with
      | false =>
        have hbf : bd = false := by rw [← HBDD.out]; rfl
        subst hbf
        obtain ⟨y0, y1, y2, y3, y4, y9, y5, y6, y7, y8⟩ := rtC_cells (HN3.out.b7)
        go_wp2_with fail
        go_meet
        case rel => exact ⟨rfl, by rw [HBARE.out]; exact HN3.out⟩
      | true =>
        by_cases hfs : i = fs
        · have hd : ((i : Int) != (fs : Int)) = false := by rw [bne_eq_false_iff_eq]; omega
          have hbf : bd = false := by rw [← HBDD.out, decide_eq_true hfs]; rfl
          subst hbf
          clear hfs
          obtain ⟨y0, y1, y2, y3, y4, y9, y5, y6, y7, y8⟩ := rtC_cells (HN3.out.b7)
          go_wp2_with fail
          go_meet
          case rel => exact ⟨rfl, by rw [HBARE.out]; exact HN3.out⟩
        · have hd : ((i : Int) != (fs : Int)) = true := by rw [bne_iff_ne]; omega
          have hbf : bd = !sgn l (i + 1) 93 := by rw [← HBDD.out, decide_eq_false hfs]; rfl
          subst hbf
          clear hfs
          obtain ⟨y0, y1, y2, y3, y4, y9, y5, y6, y7, y8⟩ := rtC_cells (HN3.out.b7)
          go_wp2_with fail
          clear y0 y1 y2 y3 y4 y5 y6 y7 y8 y9
          refine (refSign_any w3 a n c (i + 1) 93 l HN3.out.tb.sm').mono ?_
          rintro e w4 ⟨rfl, hb⟩
          have HN4 := Lib.hid (HN3.out.below hb)
          clear hb
          go_wp2_with fail
          go_meet
          case rel => exact ⟨rfl, by rw [HBARE.out]; exact HN4.out⟩
    case rest =>
      obtain ⟨hv5, hT5⟩ := hcut
      subst hv5
      generalize wc = w5 at hT5 ⊢
      clear HN3
      have HN5 := Lib.hid hT5
      clear hT5
      obtain ⟨bare, hbare⟩ : ∃ bare, sgn l i 45 = bare := ⟨_, rfl⟩
      rw [hbare] at HN5
      clear hbare HBDD
      cases bd with
      | true =>
        by_cases ho : n ≤ i + 1
        · have hd : decide ((n : Int) ≤ (i : Int) + 1) = true := decide_eq_true (by omega)
          have HEQ : Hid (ritemM l op i (decide (i = fs)) = .bad 32 op) := Lib.hid (by rw [HRI.out, if_pos rfl, if_pos (show over l (i + 1) = true from decide_eq_true (by rw [HL.out]; omega))])
          obtain ⟨q1, q2⟩ := HN5.out.tb.done (rtC i 0 false false 0 0 0 0 0 32)
          have HQ := Lib.hid (And.intro q1 q2)
          clear q1 q2
          go_wp2_with ((refine wpList_store_row rfl TRt (.tmp 6) (.tmp 36) rfl rfl g TRt zRt (rtC i 0 false false 0 0 0 0 0 32) rfl rfl HN5.out.tb.box rfl infoRt (rtC_one _ _ _ _ _ _ _ _ _ _) ?_))
          exact ret_cls rfl rfl HQ.out.2 Tryd.underlying88 rfl infoRt rfl (ri_bad HEQ.out (fun h => absurd rfl h) HQ.out.1)
        · have hd : decide ((n : Int) ≤ (i : Int) + 1) = false := decide_eq_false (by omega)
          have HEQ : Hid (ritemM l op i (decide (i = fs)) = .bad 30 i) := Lib.hid (by rw [HRI.out, if_pos rfl, if_neg (show ¬ over l (i + 1) = true by rw [show over l (i + 1) = false from decide_eq_false (by rw [HL.out]; omega)]; decide)])
          obtain ⟨q1, q2⟩ := HN5.out.tb.done (rtC i 0 false false 0 0 0 0 0 30)
          have HQ := Lib.hid (And.intro q1 q2)
          clear q1 q2
          go_wp2_with ((refine wpList_store_row rfl TRt (.tmp 6) (.tmp 38) rfl rfl g TRt zRt (rtC i 0 false false 0 0 0 0 0 30) rfl rfl HN5.out.tb.box rfl infoRt (rtC_one _ _ _ _ _ _ _ _ _ _) ?_))
          exact ret_cls rfl rfl HQ.out.2 Tryd.underlying88 rfl infoRt rfl (ri_bad HEQ.out (fun _ => rfl) HQ.out.1)
      | false =>
        rw [if_neg (by decide)] at HRI
        obtain ⟨be, hbe⟩ : ∃ be, (!sgn l next 45 || over l (next + 1) || sgn l (next + 1) 93) = be := ⟨_, rfl⟩
        rw [hbe] at HRI
        have HBE := Lib.hid hbe
        clear hbe
        go_upto_region 8 with fail
        go_cut [58] (fun vb wx => vb = .bool be ∧ T2 w wx g g7 (rtC i next fin bare v x0 x1 x2 x3 0) a n c l)
        case first =>
          obtain ⟨y0, y1, y2, y3, y4, y9, y5, y6, y7, y8⟩ := rtC_cells (HN5.out.b7)
          go_wp2_with fail
          clear y0 y1 y2 y3 y4 y5 y6 y7 y8 y9
          refine (refSign_any w5 a n c (next) 45 l HN5.out.tb.sm').mono ?_
          rintro e w6 ⟨rfl, hb⟩
          have HN6 := Lib.hid (HN5.out.below hb)
          clear hb
          cases s45 : sgn l next 45 with
          | false =>
            have hbf : be = true := by rw [← HBE.out, s45]; rfl
            subst hbf
            go_wp2_with fail
            go_meet
            case rel => exact ⟨rfl, HN6.out⟩
          | true =>
            by_cases ho : n ≤ next + 1
            · have hd : decide ((n : Int) ≤ (next : Int) + 1) = true := decide_eq_true (by omega)
              have hbf : be = true := by rw [← HBE.out, s45, show over l (next + 1) = true from decide_eq_true (by rw [HL.out]; omega)]; rfl
              subst hbf
              obtain ⟨y0, y1, y2, y3, y4, y9, y5, y6, y7, y8⟩ := rtC_cells (HN6.out.b7)
              go_wp2_with fail
              go_meet
              case rel => exact ⟨rfl, HN6.out⟩
            · have hd : decide ((n : Int) ≤ (next : Int) + 1) = false := decide_eq_false (by omega)
              have hbf : be = sgn l (next + 1) 93 := by rw [← HBE.out, s45, show over l (next + 1) = false from decide_eq_false (by rw [HL.out]; omega)]; rfl
              subst hbf
              obtain ⟨y0, y1, y2, y3, y4, y9, y5, y6, y7, y8⟩ := rtC_cells (HN6.out.b7)
              go_wp2_with fail
              clear y0 y1 y2 y3 y4 y5 y6 y7 y8 y9
              refine (refSign_any w6 a n c (next + 1) 93 l HN6.out.tb.sm').mono ?_
              rintro e w7 ⟨rfl, hb⟩
              have HN7 := Lib.hid (HN6.out.below hb)
              clear hb
              go_wp2_with fail
              go_meet
              case rel => exact ⟨rfl, HN7.out⟩
        case rest =>
          obtain ⟨hv8, hT8⟩ := hcut
          subst hv8
          generalize wc = w8 at hT8 ⊢
          have HN8 := Lib.hid hT8
          clear hT8 HN5 HBE
          cases be with
          | true =>
            have HEQ : Hid (ritemM l op i (decide (i = fs)) = .ok [x0, x1, x2, x3] fin v next) := Lib.hid (by rw [HRI.out, if_pos rfl])
            obtain ⟨y0, y1, y2, y3, y4, y9, y5, y6, y7, y8⟩ := rtC_cells (HN8.out.b7)
            obtain ⟨q1, q2⟩ := HN8.out.tb.done (rtC i next fin bare v x0 x1 x2 x3 0)
            have HQ := Lib.hid (And.intro q1 q2)
            clear q1 q2
            go_wp2_with ((refine wpList_store_row rfl TRt (.tmp 6) (.tmp 59) rfl rfl g TRt zRt (rtC i next fin bare v x0 x1 x2 x3 0) rfl rfl HN8.out.tb.box rfl infoRt (rtC_one _ _ _ _ _ _ _ _ _ _) ?_))
            exact ret_cls rfl rfl HQ.out.2 Tryd.underlying88 rfl infoRt rfl (ri_ok HEQ.out HQ.out.1)
          | false =>
            rw [if_neg (by decide)] at HRI
            obtain ⟨y0, y1, y2, y3, y4, y9, y5, y6, y7, y8⟩ := rtC_cells (HN8.out.b7)
            cases fin with
            | false =>
              have HEQ : Hid (ritemM l op i (decide (i = fs)) = .bad 30 i) := Lib.hid (by rw [HRI.out, if_pos rfl])
              obtain ⟨q1, q2⟩ := HN8.out.tb.done (rtC i 0 false false 0 0 0 0 0 30)
              have HQ := Lib.hid (And.intro q1 q2)
              clear q1 q2
              go_wp2_with ((refine wpList_store_row rfl TRt (.tmp 6) (.tmp 64) rfl rfl g TRt zRt (rtC i 0 false false 0 0 0 0 0 30) rfl rfl HN8.out.tb.box rfl infoRt (rtC_one _ _ _ _ _ _ _ _ _ _) ?_))
              exact ret_cls rfl rfl HQ.out.2 Tryd.underlying88 rfl infoRt rfl (ri_bad HEQ.out (fun _ => rfl) HQ.out.1)
            | true =>
              rw [if_neg (by decide)] at HRI
              go_wp2_with fail
              refine (refThing_any w8 a n c op (next + 1) l HN8.out.tb.sm').mono ?_
              rintro e w9 ⟨rfl, hb⟩
              have HN9 := Lib.hid (HN8.out.below hb)
              have HBD := Lib.hid (thing_bad l op (next + 1))
              have HAT := Lib.hid (thing_at l op (next + 1))
              have HOK := Lib.hid (thing_okC l op (next + 1))
              have HVL2 := Lib.hid (thing_val l HM.out op (next + 1))
              have HNX2 := Lib.hid (thing_next l op (next + 1))
              clear hb HN8 y0 y1 y2 y3 y4 y5 y6 y7 y8 y9
              cases hth : thingM l op (next + 1) with
              | bad er p =>
                rw [hth] at HRI HBD HAT
                have HEQ : Hid (ritemM l op i (decide (i = fs)) = .bad er p) := HRI
                have hen : ((er : Int) != 0) = true := by rcases HBD.out with h | h | h <;> rw [h] <;> rfl
                have HPP : Hid (er ≠ 32 → next + 1 = p) := Lib.hid (fun h => (HAT.out er p rfl h).symm)
                clear HRI HOK HVL2 HNX2 hth
                rw [rtT_bad]
                have HN10 : Hid (T3 w (w9.alloc (.cells #[.int .i64 ((next : Int) + 1), .int .i64 0, .bool false, .bool false, .int .u8 0, .int .u64 0, .int .u64 0, .int .u64 0, .int .u64 0, .int .i64 (er : Int)] TRt)) g g7 w9.heap.size (rtC i next true bare v x0 x1 x2 x3 0) (rtC (next + 1) 0 false false 0 0 0 0 0 er) a n c l) := Lib.hid (T3.new HN9.out (rtC (next + 1) 0 false false 0 0 0 0 0 er))
                go_upto_region 13 with fail
                generalize w9.heap.size = g8 at HN10 ⊢
                generalize w9.alloc (.cells #[.int .i64 ((next : Int) + 1), .int .i64 0, .bool false, .bool false, .int .u8 0, .int .u64 0, .int .u64 0, .int .u64 0, .int .u64 0, .int .i64 (er : Int)] TRt) = w10 at HN10 ⊢
                obtain ⟨y0, y1, y2, y3, y4, y9, y5, y6, y7, y8⟩ := rtC_cells (HN10.out.b8)
                obtain ⟨q1, q2⟩ := HN10.out.t2.tb.done (rtC (next + 1) 0 false false 0 0 0 0 0 er)
                have HQ := Lib.hid (And.intro q1 q2)
                clear q1 q2
                go_wp2_with ((refine wpList_store_row rfl TRt (.tmp 6) (.tmp 73) rfl rfl g TRt zRt (rtC (next + 1) 0 false false 0 0 0 0 0 er) rfl rfl HN10.out.t2.tb.box rfl infoRt (rtC_one _ _ _ _ _ _ _ _ _ _) ?_))
                exact ret_cls rfl rfl HQ.out.2 Tryd.underlying88 rfl infoRt rfl (ri_bad HEQ.out HPP.out HQ.out.1)
              | ok set2 fin2 v2 next2 =>
                rw [hth] at HRI HOK HVL2 HNX2
                obtain ⟨z0, z1, z2, z3, rfl⟩ := isC_words set2 HOK.out
                rw [rtT_ok]
                simp only at HRI
                have HVLa : Hid (0 ≤ v ∧ v ≤ 255) := Lib.hid HVL.out
                have HVLb : Hid (0 ≤ v2 ∧ v2 ≤ 255) := Lib.hid HVL2.out
                clear HBD HAT HOK hth HVL HVL2
                obtain ⟨bare2, hb2⟩ : ∃ b2, sgn l (next + 1) 45 = b2 := ⟨_, rfl⟩
                rw [hb2]
                clear hb2
                have HN10 : Hid (T3 w (w9.alloc (.cells #[.int .i64 ((next : Int) + 1), .int .i64 (next2 : Int), .bool fin2, .bool bare2, .int .u8 v2, .int .u64 (z0 : Int), .int .u64 (z1 : Int), .int .u64 (z2 : Int), .int .u64 (z3 : Int), .int .i64 0] TRt)) g g7 w9.heap.size (rtC i next true bare v x0 x1 x2 x3 0) (rtC (next + 1) next2 fin2 bare2 v2 z0 z1 z2 z3 0) a n c l) := Lib.hid (T3.new HN9.out (rtC (next + 1) next2 fin2 bare2 v2 z0 z1 z2 z3 0))
                go_upto_region 13 with fail
                generalize w9.heap.size = g8 at HN10 ⊢
                generalize w9.alloc (.cells #[.int .i64 ((next : Int) + 1), .int .i64 (next2 : Int), .bool fin2, .bool bare2, .int .u8 v2, .int .u64 (z0 : Int), .int .u64 (z1 : Int), .int .u64 (z2 : Int), .int .u64 (z3 : Int), .int .i64 0] TRt) = w10 at HN10 ⊢
                obtain ⟨y0, y1, y2, y3, y4, y9, y5, y6, y7, y8⟩ := rtC_cells (HN10.out.b8)
                obtain ⟨y20, y21, y22, y23, y24, y29, y25, y26, y27, y28⟩ := rtC_cells (HN10.out.t2.b7)
                cases fin2 with
                | false =>
                  have HEQ : Hid (ritemM l op i (decide (i = fs)) = .bad 30 i) := Lib.hid (by rw [HRI.out, if_pos (.inl rfl)])
                  obtain ⟨q1, q2⟩ := HN10.out.t2.tb.done (rtC i 0 false false 0 0 0 0 0 30)
                  have HQ := Lib.hid (And.intro q1 q2)
                  clear q1 q2
                  go_wp2_with ((refine wpList_store_row rfl TRt (.tmp 6) (.tmp 85) rfl rfl g TRt zRt (rtC i 0 false false 0 0 0 0 0 30) rfl rfl HN10.out.t2.tb.box rfl infoRt (rtC_one _ _ _ _ _ _ _ _ _ _) ?_))
                  exact ret_cls rfl rfl HQ.out.2 Tryd.underlying88 rfl infoRt rfl (ri_bad HEQ.out (fun _ => rfl) HQ.out.1)
                | true =>
                  by_cases hlt : v2 < v
                  · have hd : decide (v2 < v) = true := decide_eq_true hlt
                    have HEQ : Hid (ritemM l op i (decide (i = fs)) = .bad 30 i) := Lib.hid (by rw [HRI.out, if_pos (.inr hlt)])
                    clear hlt
                    obtain ⟨q1, q2⟩ := HN10.out.t2.tb.done (rtC i 0 false false 0 0 0 0 0 30)
                    have HQ := Lib.hid (And.intro q1 q2)
                    clear q1 q2
                    go_wp2_with ((refine wpList_store_row rfl TRt (.tmp 6) (.tmp 85) rfl rfl g TRt zRt (rtC i 0 false false 0 0 0 0 0 30) rfl rfl HN10.out.t2.tb.box rfl infoRt (rtC_one _ _ _ _ _ _ _ _ _ _) ?_))
                    exact ret_cls rfl rfl HQ.out.2 Tryd.underlying88 rfl infoRt rfl (ri_bad HEQ.out (fun _ => rfl) HQ.out.1)
                  · have hd : decide (v2 < v) = false := decide_eq_false hlt
                    have HEQ : Hid (ritemM l op i (decide (i = fs)) = .ok (rangeL v.toNat v2.toNat) false 0 next2) := Lib.hid (by rw [HRI.out, if_neg (by simp [hlt])])
                    have hva := HVLa.out
                    have hvb := HVLb.out
                    obtain ⟨lo, hlo⟩ : ∃ lo : Nat, v = (lo : Int) := ⟨v.toNat, by omega⟩
                    obtain ⟨hi2, hhi⟩ : ∃ hi : Nat, v2 = (hi : Int) := ⟨v2.toNat, by omega⟩
                    subst hlo hhi
                    rw [show ((lo : Int)).toNat = lo by simp, show ((hi2 : Int)).toNat = hi2 by simp] at HEQ
                    have hltn : ¬ hi2 < lo := by omega
                    have hlo2 : lo < 256 := by omega
                    have hhi2 : hi2 < 256 := by omega
                    clear hlt hva hvb HVLa HVLb
                    go_upto_region 17 with fail
                    have HS : Hid (w10.cell? ⟨g8, 1, none⟩ = some (.int .i64 (next2 : Int)) ∧ w10.cell? ⟨g7, 4, none⟩ = some (.int .u8 (lo : Int)) ∧ w10.cell? ⟨g8, 4, none⟩ = some (.int .u8 (hi2 : Int))) := Lib.hid ⟨y1, y24, y4⟩
                    clear y0 y1 y2 y3 y4 y5 y6 y7 y8 y9 y20 y21 y22 y23 y24 y25 y26 y27 y28 y29
                    have HTD := Lib.hid (HN10.out.below (Below.refl _ w10).drew)
                    have hS : w10.drew.cell? ⟨g8, 1, none⟩ = some (.int .i64 (next2 : Int)) ∧ w10.drew.cell? ⟨g7, 4, none⟩ = some (.int .u8 (lo : Int)) ∧ w10.drew.cell? ⟨g8, 4, none⟩ = some (.int .u8 (hi2 : Int)) := HS.out
                    refine wp_region_held_drew (S := fun w' => w'.cell? ⟨g8, 1, none⟩ = some (.int .i64 (next2 : Int)) ∧ w'.cell? ⟨g7, 4, none⟩ = some (.int .u8 (lo : Int)) ∧ w'.cell? ⟨g8, 4, none⟩ = some (.int .u8 (hi2 : Int))) (by kernel_rfl) hS (fun hHeld => ?_)
                    generalize w10.drew = wd at HTD hHeld ⊢
                    clear hS
                    refine wpAnyH_take (i := 0) (v := .int .i64 (i : Int)) rfl (by kernel_rfl) (by kernel_rfl) (by kernel_rfl) (fun _ _ _ h => h) (Or.inl ⟨by rfl, by intro w hSw; (try dsimp only at hSw); go_simp⟩) (by assumption) ?_
                    simp only [Act.put, List.getElem_toArray, List.getElem_cons_zero, List.setIfInBounds_toArray, List.set_cons_zero, List.set_cons_succ]
                    refine wpAnyH_take (i := 1) (v := .pointer (some ⟨g8, 1, none⟩)) rfl (by kernel_rfl) (by kernel_rfl) (by kernel_rfl) (fun _ _ _ h => h) (Or.inl ⟨by rfl, by intro w hSw; (try dsimp only at hSw); go_simp⟩) (by assumption) ?_
                    simp only [Act.put, List.getElem_toArray, List.getElem_cons_zero, List.getElem_cons_succ, List.setIfInBounds_toArray, List.set_cons_zero, List.set_cons_succ]
                    refine wpAnyH_take (i := 2) (v := .int .i64 (next2 : Int)) rfl (by kernel_rfl) (by kernel_rfl) (by kernel_rfl) (fun _ _ _ h => h) (Or.inl ⟨by rfl, by intro w hSw; (try dsimp only at hSw); go_simp⟩) (by assumption) ?_
                    simp only [Act.put, List.getElem_toArray, List.getElem_cons_zero, List.getElem_cons_succ, List.setIfInBounds_toArray, List.set_cons_zero, List.set_cons_succ]
                    refine wpAnyH_take (i := 3) (v := .pointer (some ⟨g7, 4, none⟩)) rfl (by kernel_rfl) (by kernel_rfl) (by kernel_rfl) (fun _ _ _ h => h) (Or.inl ⟨by rfl, by intro w hSw; (try dsimp only at hSw); go_simp⟩) (by assumption) ?_
                    simp only [Act.put, List.getElem_toArray, List.getElem_cons_zero, List.getElem_cons_succ, List.setIfInBounds_toArray, List.set_cons_zero, List.set_cons_succ]
                    refine wpAnyH_take (i := 4) (v := .int .u8 (lo : Int)) rfl (by kernel_rfl) (by kernel_rfl) (by kernel_rfl) (fun _ _ _ h => h) (Or.inl ⟨by rfl, by intro w hSw; (try dsimp only at hSw); go_simp⟩) (by assumption) ?_
                    simp only [Act.put, List.getElem_toArray, List.getElem_cons_zero, List.getElem_cons_succ, List.setIfInBounds_toArray, List.set_cons_zero, List.set_cons_succ]
                    refine wpAnyH_take (i := 5) (v := .pointer (some ⟨g8, 4, none⟩)) rfl (by kernel_rfl) (by kernel_rfl) (by kernel_rfl) (fun _ _ _ h => h) (Or.inl ⟨by rfl, by intro w hSw; (try dsimp only at hSw); go_simp⟩) (by assumption) ?_
                    simp only [Act.put, List.getElem_toArray, List.getElem_cons_zero, List.getElem_cons_succ, List.setIfInBounds_toArray, List.set_cons_zero, List.set_cons_succ]
                    refine wpAnyH_take (i := 6) (v := .int .u8 (hi2 : Int)) rfl (by kernel_rfl) (by kernel_rfl) (by kernel_rfl) (fun _ _ _ h => h) (Or.inl ⟨by rfl, by intro w hSw; (try dsimp only at hSw); go_simp⟩) (by assumption) ?_
                    simp only [Act.put, List.getElem_toArray, List.getElem_cons_zero, List.getElem_cons_succ, List.setIfInBounds_toArray, List.set_cons_zero, List.set_cons_succ]
                    refine wpAnyH_ready (rs := [7]) (by kernel_rfl) (by simp) ?_
                    refine AllReadyH.cons rfl (fun K hK => ?_) AllReadyH.nil
                    go_simp
                    refine (refRange_any _ lo hi2 hlo2 hhi2).mono ?_
                    rintro e wc ⟨rfl, hbn⟩
                    have HTC := Lib.hid (HTD.out.below hbn)
                    replace hHeld := And.intro (cell_b hbn hHeld.1) (And.intro (cell_b hbn hHeld.2.1) (cell_b hbn hHeld.2.2))
                    refine hK.out _ _ hHeld (fun hHeld => ?_)
                    clear hK K hbn
                    obtain ⟨t0, t1, t2, t3, hu⟩ := isC_words _ (isC_rangeL4 lo hi2)
                    rw [hu] at HEQ
                    rw [hu, show row64 [t0, t1, t2, t3] = #[.int .u64 (t0 : Int), .int .u64 (t1 : Int), .int .u64 (t2 : Int), .int .u64 (t3 : Int)] from rfl]
                    clear hu
                    refine wpAnyH_take (i := 8) (v := .agg #[.int .i64 (i : Int), .int .i64 (next2 : Int), .bool false, .bool false, .int .u8 0, .int .u64 (t0 : Int), .int .u64 (t1 : Int), .int .u64 (t2 : Int), .int .u64 (t3 : Int), .int .i64 0]) rfl (by kernel_rfl) (by kernel_rfl) (by kernel_rfl) (fun _ _ _ h => h) (Or.inl ⟨by rfl, by intro w hSw; (try dsimp only at hSw); go_simp⟩) (by assumption) ?_
                    simp only [Act.put, List.getElem_toArray, List.getElem_cons_zero, List.getElem_cons_succ, List.setIfInBounds_toArray, List.set_cons_zero, List.set_cons_succ]
                    obtain ⟨q1, q2⟩ := HTC.out.t2.tb.done (rtC i next2 false false 0 t0 t1 t2 t3 0)
                    have HQ := Lib.hid (And.intro q1 q2)
                    have HNE := Lib.hid (And.intro HTC.out.ne8.1 HTC.out.t2.ne)
                    clear q1 q2
                    refine wpAnyH_ready (rs := [9]) (by kernel_rfl) (by simp) ?_
                    refine AllReadyH.cons rfl (fun K hK => ?_) AllReadyH.nil
                    refine wp_store_row TRt _ _ rfl g (rtC i next2 false false 0 t0 t1 t2 t3 0) rfl rfl TRt zRt HTC.out.t2.tb.box infoRt rfl (by kernel_rfl) ?_
                    refine hK.out _ _ ⟨setRow_cellF hHeld.1 HNE.out.1, setRow_cellF hHeld.2.1 HNE.out.2, setRow_cellF hHeld.2.2 HNE.out.1⟩ (fun hHeld => ?_)
                    clear hK K
                    refine wpAnyH_done (by kernel_rfl) ?_ _
                    go_wp2_with fail
                    exact ret_cls rfl rfl HQ.out.2 Tryd.underlying88 rfl infoRt rfl (ri_ok HEQ.out HQ.out.1)
end Go.Proofs.YthegepiafodpjaaDoor
