/-
  galleyref04: Sign, thing.
-/
import Derived.Test.YthegepiafodpjaaDoorBrE
import Derived.Test.YthegepiafodpjaaDoorBrT
import Derived.Test.YthegepiafodpjaaDoorMakesN
import Derived.Test.YthegepiafodpjaaDoorMakesR
import Derived.Test.YthegepiafodpjaaDoorApp
import Derived.Deep.CutBlock
import Derived.Deep.RegionHeld3
import Derived.RegionTactic
namespace Go.Proofs.YthegepiafodpjaaDoor
open Go.RowKit

set_option maxRecDepth 100000 in
theorem refSign_any (w : World) (a : Option Addr) (n c i : Nat) (b : Int) (l : List Mk) (h : SM w (.slice a n c) l) :
    Calls Tryd.prog 31 #[.slice a n c, .int .i64 (i : Int), .int .u8 b] w fun e w' => e = .returned (.bool (sgn l i b)) ∧ Below w.heap.size w w' := by
  obtain ⟨hl, hn⟩ := h.len
  have HL := Lib.hid hl
  have HB := Lib.hid (Below.refl w.heap.size w)
  by_cases hlt : i < n
  · have hd : decide ((i : Int) < (n : Int)) = true := by simp; omega
    have hz : decide (0 ≤ (i : Int)) = true := by simp
    obtain ⟨bk, o, rfl, hr⟩ := h.read i hlt
    obtain ⟨r0, r1⟩ := hr i hlt
    obtain ⟨x, hx⟩ : ∃ x, l[i]?.getD (0, false) = x := ⟨_, rfl⟩
    obtain ⟨x0, x1⟩ := x
    rw [hx] at r0 r1
    simp only at r0 r1
    have HS : Hid (sgn l i b = decide ((x0, x1) = (b, false))) := Lib.hid (by unfold sgn; rw [hx, decide_eq_true (show i < l.length by omega), Bool.true_and])
    clear h hl hr hx
    go_enter Tryd.func31, Tryd.ntmps31
    cases x1 with
    | true =>
      go_wp2_with fail
      go_ret
      exact ⟨by rw [HS.out]; simp, HB.out⟩
    | false =>
      by_cases he : x0 = b
      · subst he
        have e1 : (x0 == x0) = true := by simp
        go_wp2_with fail
        go_ret
        exact ⟨by rw [HS.out]; simp, HB.out⟩
      · have e1 : (x0 == b) = false := by simp [he]
        have HE := Lib.hid he
        clear he
        go_wp2_with fail
        go_ret
        exact ⟨by rw [HS.out]; simp [HE.out], HB.out⟩
  · have hd : decide ((i : Int) < (n : Int)) = false := by simp; omega
    have HO : Hid (sgn l i b = false) := Lib.hid (sgn_over (by unfold over; rw [hl]; exact decide_eq_true (by omega)))
    clear h hl
    go_enter Tryd.func31, Tryd.ntmps31
    go_wp2_with fail
    go_ret
    exact ⟨by rw [HO.out]; rfl, HB.out⟩
set_option maxRecDepth 100000 in
theorem refSign_neg (w : World) (a : Option Addr) (n c : Nat) (i : Int) (hi : i < 0) (b : Int) :
    Calls Tryd.prog 31 #[.slice a n c, .int .i64 i, .int .u8 b] w fun e w' => e = .returned (.bool false) ∧ Below w.heap.size w w' := by
  have hz : decide (0 ≤ i) = false := decide_eq_false (by omega)
  have HB := Lib.hid (Below.refl w.heap.size w)
  clear hi
  go_enter Tryd.func31, Tryd.ntmps31
  go_wp2_with fail
  go_ret
  exact ⟨rfl, HB.out⟩

abbrev TRt : TypeId := 88
def rtC (fr tt : Nat) (fin bare : Bool) (b : Int) (u0 u1 u2 u3 : Nat) (er : Nat) : Array Value := #[.int .i64 (fr : Int), .int .i64 (tt : Int), .bool fin, .bool bare, .int .u8 b, .int .u64 (u0 : Int), .int .u64 (u1 : Int), .int .u64 (u2 : Int), .int .u64 (u3 : Int), .int .i64 (er : Int)]
theorem rtC_one (fr tt : Nat) (fin bare : Bool) (b : Int) (u0 u1 u2 u3 : Nat) (er : Nat) : ∀ u ∈ (rtC fr tt fin bare b u0 u1 u2 u3 er).toList, u.oneCell' = true := by
  intro u hu
  unfold rtC at hu
  simp only [List.mem_cons, List.not_mem_nil, or_false] at hu
  rcases hu with rfl | rfl | rfl | rfl | rfl | rfl | rfl | rfl | rfl | rfl <;> rfl
theorem infoRt : (Tryd.prog.info? TRt).map (·.size) = some 10 := by kernel_rfl
abbrev zRt : Array Value := #[.int .i64 0, .int .i64 0, .bool false, .bool false, .int .u8 0, .int .u64 0, .int .u64 0, .int .u64 0, .int .u64 0, .int .i64 0]
theorem zRt_is : rtC 0 0 false false 0 0 0 0 0 0 = zRt := rfl
/-- What thing tells. -/
def rtT (l : List Mk) (i : Nat) : TR → Array Value
  | .bad e _ => rtC i 0 false false 0 0 0 0 0 e
  | .ok set fin v next => rtC i next fin (sgn l i 45) v (set[0]?.getD 0) (set[1]?.getD 0) (set[2]?.getD 0) (set[3]?.getD 0) 0
def RtPost (w : World) (l : List Mk) (i : Nat) (r : TR) (e : Ending) (w' : World) : Prop := e = .returned (.agg (rtT l i r)) ∧ Below w.heap.size w w'
theorem rt_bad {w w' : World} {l : List Mk} {i er p : Nat} {r : TR} (h : r = .bad er p) (hb : Below w.heap.size w w') : RtPost w l i r (.returned (.agg (rtC i 0 false false 0 0 0 0 0 er))) w' := by
  subst h
  exact ⟨rfl, hb⟩
theorem rt_ok {w w' : World} {l : List Mk} {i next u0 u1 u2 u3 : Nat} {fin bare : Bool} {v : Int} {r : TR} (h : r = .ok [u0, u1, u2, u3] fin v next) (hs : sgn l i 45 = bare) (hb : Below w.heap.size w w') : RtPost w l i r (.returned (.agg (rtC i next fin bare v u0 u1 u2 u3 0))) w' := by
  subst h hs
  exact ⟨rfl, hb⟩
/-- The result's box and the marks. -/
structure TB (w0 w : World) (g : Nat) (a : Option Addr) (n c : Nat) (l : List Mk) : Prop where
  box : w.heap[g]? = some (.cells zRt TRt (0, 0))
  sm : SM w0 (.slice a n c) l
  bel : Below w0.heap.size w0 w
  lg : w0.heap.size = g
theorem TB.below {w0 w w' : World} {g : Nat} {a : Option Addr} {n c : Nat} {l : List Mk} (h : TB w0 w g a n c l) (hb : Below w.heap.size w w') : TB w0 w' g a n c l :=
  ⟨heap_b hb h.box, h.sm, h.bel.trans (hb.mono h.bel.size), h.lg⟩
theorem TB.sm' {w0 w : World} {g : Nat} {a : Option Addr} {n c : Nat} {l : List Mk} (h : TB w0 w g a n c l) : SM w (.slice a n c) l := h.sm.below h.bel
theorem TB.done {w0 w : World} {g : Nat} {a : Option Addr} {n c : Nat} {l : List Mk} (h : TB w0 w g a n c l) (cs : Array Value) : Below w0.heap.size w0 (w.setRow g cs) ∧ (w.setRow g cs).heap[g]? = some (.cells cs TRt (0, 0)) :=
  ⟨below_setRow h.bel (by rw [h.lg]; exact Nat.le_refl _) _, setRow_heap _ _ _ _ _ _ h.box⟩
theorem TB.app {w0 w w' : World} {g : Nat} {a : Option Addr} {n c : Nat} {l : List Mk} {v v' : Value} {e : TypeId} {s m : Nat} {xs : List Value} (h : TB w0 w g a n c l) (ho : w.ownsRow (g + 1) e s v m xs) (hA : AppPost w w' (g + 1) v v') : TB w0 w' g a n c l := by
  refine ⟨?_, h.sm, hA.bel _ _ h.bel (by have := h.lg; omega), h.lg⟩
  rw [hA.block g (Array.getElem?_eq_some_iff.1 h.box).1 (fun e => by have := (World.ownsRow.lt ho _ e).1; omega)]
  exact h.box
theorem TB.new {w : World} {a : Option Addr} {n c : Nat} {l : List Mk} (h : SM w (.slice a n c) l) : TB w (w.alloc (.cells zRt TRt)) w.heap.size a n c l := ⟨heap_alloc_new w _, h, box1 _ _, rfl⟩
theorem cells4n {w : World} {g : Nat} {u0 u1 u2 u3 : Nat} {T : TypeId} (h : w.heap[g]? = some (.cells #[.int .u64 (u0 : Int), .int .u64 (u1 : Int), .int .u64 (u2 : Int), .int .u64 (u3 : Int)] T (0, 0))) :
    w.cell? ⟨g, 0, none⟩ = some (.int .u64 (u0 : Int)) ∧ w.cell? ⟨g, 1, none⟩ = some (.int .u64 (u1 : Int)) ∧ w.cell? ⟨g, 2, none⟩ = some (.int .u64 (u2 : Int)) ∧ w.cell? ⟨g, 3, none⟩ = some (.int .u64 (u3 : Int)) := by
  refine ⟨?_, ?_, ?_, ?_⟩ <;> (rw [cell_of_row _ _ _ _ _ (0, 0) h]; rfl)
theorem cell_bel {w w' : World} {a : Addr} {v : Value} (hb : Below w.heap.size w w') (h : w.cell? a = some v) : w'.cell? a = some v := cell_b hb h
theorem setRow_cellF {w : World} {g k : Nat} {cs : Array Value} {j : Nat} {v : Value} (h : w.cell? ⟨k, j, none⟩ = some v) (hne : k ≠ g) : (w.setRow g cs).cell? ⟨k, j, none⟩ = some v := by
  rw [World.cell?_of_block (w := w) (_root_.Go.setRow_other w g k cs hne)]
  exact h
theorem cell_w0 {w0 w : World} {g bk o : Nat} {n c : Nat} {l : List Mk} (h : TB w0 w g (some ⟨bk, o, none⟩) n c l) (i : Nat) (hi : i < n) : w0.cell? ⟨bk, o + i * 2, none⟩ = some (.int .u8 (l[i]?.getD (0, false)).1) := by
  obtain ⟨_, _, hae, hr⟩ := h.sm.read i hi
  simp only [Option.some.injEq, Addr.mk.injEq, and_true] at hae
  obtain ⟨rfl, rfl⟩ := hae
  exact (hr i hi).1
/-- The loop over a name. -/
structure NT (w0 w : World) (g : Nat) (a : Option Addr) (n c : Nat) (l : List Mk) (op i f k : Nat) (v : Value) (text : List Int) : Prop where
  tb : TB w0 w g a n c l
  own : OwnB w (g + 1) v text
  isb : IsB text
  len : text.length + i + 2 ≤ k
  eq : nameM l op i (l.length + 1) (i + 2) [] = nameM l op i f k text
  fk : n < f + k
  sz : g + 1 ≤ w.heap.size
theorem NT.below {w0 w w' : World} {g : Nat} {a : Option Addr} {n c : Nat} {l : List Mk} {op i f k : Nat} {v : Value} {text : List Int} (h : NT w0 w g a n c l op i f k v text) (hb : Below w.heap.size w w') : NT w0 w' g a n c l op i f k v text :=
  { h with tb := h.tb.below hb, own := h.own.below hb, sz := Nat.le_trans h.sz hb.size }

set_option maxHeartbeats 4000000 in
set_option maxRecDepth 100000 in
theorem refThing_any (w : World) (a : Option Addr) (n c op i : Nat) (l : List Mk) (h : SM w (.slice a n c) l) :
    Calls Tryd.prog 63 #[.slice a n c, .int .i64 (i : Int)] w (RtPost w l i (thingM l op i)) := by
  obtain ⟨hl, hn⟩ := h.len
  have HL := Lib.hid hl
  have HM := Lib.hid h.1
  have HN := Lib.hid (TB.new h)
  obtain ⟨g, hg⟩ : ∃ g, w.heap.size = g := ⟨_, rfl⟩
  rw [hg] at HN
  have HG := Lib.hid hg
  clear h hl
  go_enter Tryd.func63, Tryd.ntmps63
  go_upto_region 1 with fail
  clear hg
  generalize w.alloc (.cells zRt TRt) = w1 at HN ⊢
  by_cases hov : n ≤ i
  · have hd : decide ((n : Int) ≤ (i : Int)) = true := decide_eq_true (by omega)
    have HEQ : Hid (thingM l op i = .bad 32 op) := Lib.hid (by unfold thingM; rw [if_pos (show over l i = true from decide_eq_true (by rw [HL.out]; exact hov))])
    obtain ⟨q1, q2⟩ := HN.out.done (rtC i 0 false false 0 0 0 0 0 32)
    have HQ := Lib.hid (And.intro q1 q2)
    clear q1 q2
    go_wp2_with (refine wpList_store_row rfl TRt (.tmp 4) (.tmp 16) rfl rfl g TRt zRt (rtC i 0 false false 0 0 0 0 0 32) rfl rfl HN.out.box rfl infoRt (rtC_one _ _ _ _ _ _ _ _ _ _) ?_)
    exact ret_cls rfl rfl HQ.out.2 Tryd.underlying88 rfl infoRt rfl (rt_bad HEQ.out HQ.out.1)
  · have hd : decide ((n : Int) ≤ (i : Int)) = false := decide_eq_false (by omega)
    have hov' : over l i = false := decide_eq_false (by rw [HL.out]; exact hov)
    go_wp2_with fail
    refine (refSign_any w1 a n c (i) 91 l HN.out.sm').mono ?_
    rintro e w2 ⟨rfl, hb⟩
    have HN2 := Lib.hid (HN.out.below hb)
    clear hb
    cases h91 : sgn l i 91 with
    | false =>
      have hk0 : kindM l i = 0 := by unfold kindM; rw [h91]; rfl
      go_wp2_with fail
      refine (refSign_any w2 a n c (i) 91 l HN2.out.sm').mono ?_
      rintro e w3 ⟨rfl, hb⟩
      have HN3 := Lib.hid (HN2.out.below hb)
      clear hb
      rw [h91]
      have HEQ : Hid (thingM l op i = .ok (ofL [byteM l i]) true (byteM l i) (i + 1)) := Lib.hid (by unfold thingM; rw [hov', hk0]; rfl)
      clear h91
      go_upto_region 23 with fail
      obtain ⟨bk, o, ha, hr⟩ := HN3.out.sm'.read i (by omega)
      subst ha
      obtain ⟨r0, -⟩ := hr i (by omega)
      have hby : byteM l i = (l[i]?.getD (0, false)).1 := rfl
      have hbb : 0 ≤ byteM l i ∧ byteM l i ≤ 255 := HM.out i
      rw [← hby] at r0
      generalize byteM l i = x at HEQ r0 hbb
      have HBB := Lib.hid hbb
      clear hr hby hbb
      have hwr : IntKind.i64.wrap ((i : Int) + 1) = (i : Int) + 1 := by rw [IntKind.wrap_i64]; omega
      obtain ⟨bare, hbare⟩ : ∃ bare, sgn l i 45 = bare := ⟨_, rfl⟩
      have HBR := Lib.hid hbare
      clear hbare
      have HNE : Hid (bk ≠ g) := Lib.hid (by
        have := World.block_lt_of_cell? w _ (cell_w0 HN3.out i (by omega))
        have := HN3.out.lg
        simp only at *
        omega)
      have HTD := Lib.hid (HN3.out.below (Below.refl _ w3).drew)
      have r0 : w3.drew.cell? ⟨bk, o + i * 2, none⟩ = some (.int .u8 x) := r0
      refine wp_region_held_drew (S := fun w' => w'.cell? ⟨bk, o + i * 2, none⟩ = some (.int .u8 x)) (by kernel_rfl) r0 (fun hHeld => ?_)
      generalize w3.drew = wd at HTD hHeld ⊢
      clear r0
      refine wpAnyH_take (i := 0) (v := .int .i64 (i : Int)) rfl (by kernel_rfl) (by kernel_rfl) (by kernel_rfl) (fun _ _ _ h => h) (Or.inl ⟨by rfl, by intro w hSw; (try dsimp only at hSw); go_simp⟩) (by assumption) ?_
      simp only [Act.put, List.getElem_toArray, List.getElem_cons_zero, List.setIfInBounds_toArray, List.set_cons_zero, List.set_cons_succ]
      refine wpAnyH_take (i := 1) (v := .int .i64 (i : Int)) rfl (by kernel_rfl) (by kernel_rfl) (by kernel_rfl) (fun _ _ _ h => h) (Or.inl ⟨by rfl, by intro w hSw; (try dsimp only at hSw); go_simp⟩) (by assumption) ?_
      simp only [Act.put, List.getElem_toArray, List.getElem_cons_zero, List.getElem_cons_succ, List.setIfInBounds_toArray, List.set_cons_zero, List.set_cons_succ]
      refine wpAnyH_take (i := 2) (v := .int .i64 ((i : Int) + 1)) rfl (by kernel_rfl) (by kernel_rfl) (by kernel_rfl) (fun _ _ _ h => h) (Or.inl ⟨by rfl, by intro w hSw; (try dsimp only at hSw); go_simp⟩) (by assumption) ?_
      simp only [Act.put, List.getElem_toArray, List.getElem_cons_zero, List.getElem_cons_succ, List.setIfInBounds_toArray, List.set_cons_zero, List.set_cons_succ]
      refine wpAnyH_take (i := 3) (v := .slice (some ⟨bk, o, none⟩) n c) rfl (by kernel_rfl) (by kernel_rfl) (by kernel_rfl) (fun _ _ _ h => h) (Or.inl ⟨by rfl, by intro w hSw; (try dsimp only at hSw); go_simp⟩) (by assumption) ?_
      simp only [Act.put, List.getElem_toArray, List.getElem_cons_zero, List.getElem_cons_succ, List.setIfInBounds_toArray, List.set_cons_zero, List.set_cons_succ]
      refine wpAnyH_take (i := 4) (v := .int .i64 (i : Int)) rfl (by kernel_rfl) (by kernel_rfl) (by kernel_rfl) (fun _ _ _ h => h) (Or.inl ⟨by rfl, by intro w hSw; (try dsimp only at hSw); go_simp⟩) (by assumption) ?_
      simp only [Act.put, List.getElem_toArray, List.getElem_cons_zero, List.getElem_cons_succ, List.setIfInBounds_toArray, List.set_cons_zero, List.set_cons_succ]
      refine wpAnyH_take (i := 6) (v := .slice (some ⟨bk, o, none⟩) n c) rfl (by kernel_rfl) (by kernel_rfl) (by kernel_rfl) (fun _ _ _ h => h) (Or.inl ⟨by rfl, by intro w hSw; (try dsimp only at hSw); go_simp⟩) (by assumption) ?_
      simp only [Act.put, List.getElem_toArray, List.getElem_cons_zero, List.getElem_cons_succ, List.setIfInBounds_toArray, List.set_cons_zero, List.set_cons_succ]
      refine wpAnyH_take (i := 7) (v := .int .i64 (i : Int)) rfl (by kernel_rfl) (by kernel_rfl) (by kernel_rfl) (fun _ _ _ h => h) (Or.inl ⟨by rfl, by intro w hSw; (try dsimp only at hSw); go_simp⟩) (by assumption) ?_
      simp only [Act.put, List.getElem_toArray, List.getElem_cons_zero, List.getElem_cons_succ, List.setIfInBounds_toArray, List.set_cons_zero, List.set_cons_succ]
      refine wpAnyH_take (i := 8) (v := .pointer (some ⟨bk, o + i * 2, none⟩)) rfl (by kernel_rfl) (by kernel_rfl) (by kernel_rfl) (fun _ _ _ h => h) (Or.inl ⟨by rfl, by intro w hSw; (try dsimp only at hSw); go_simp⟩) (by assumption) ?_
      simp only [Act.put, List.getElem_toArray, List.getElem_cons_zero, List.getElem_cons_succ, List.setIfInBounds_toArray, List.set_cons_zero, List.set_cons_succ]
      refine wpAnyH_take (i := 9) (v := .pointer (some ⟨bk, o + i * 2, none⟩)) rfl (by kernel_rfl) (by kernel_rfl) (by kernel_rfl) (fun _ _ _ h => h) (Or.inl ⟨by rfl, by intro w hSw; (try dsimp only at hSw); go_simp⟩) (by assumption) ?_
      simp only [Act.put, List.getElem_toArray, List.getElem_cons_zero, List.getElem_cons_succ, List.setIfInBounds_toArray, List.set_cons_zero, List.set_cons_succ]
      refine wpAnyH_take (i := 10) (v := .int .u8 x) rfl (by kernel_rfl) (by kernel_rfl) (by kernel_rfl) (fun _ _ _ h => h) (Or.inl ⟨by rfl, by intro w hSw; (try dsimp only at hSw); go_simp⟩) (by assumption) ?_
      simp only [Act.put, List.getElem_toArray, List.getElem_cons_zero, List.getElem_cons_succ, List.setIfInBounds_toArray, List.set_cons_zero, List.set_cons_succ]
      refine wpAnyH_take (i := 11) (v := .slice (some ⟨bk, o, none⟩) n c) rfl (by kernel_rfl) (by kernel_rfl) (by kernel_rfl) (fun _ _ _ h => h) (Or.inl ⟨by rfl, by intro w hSw; (try dsimp only at hSw); go_simp⟩) (by assumption) ?_
      simp only [Act.put, List.getElem_toArray, List.getElem_cons_zero, List.getElem_cons_succ, List.setIfInBounds_toArray, List.set_cons_zero, List.set_cons_succ]
      refine wpAnyH_take (i := 12) (v := .int .i64 (i : Int)) rfl (by kernel_rfl) (by kernel_rfl) (by kernel_rfl) (fun _ _ _ h => h) (Or.inl ⟨by rfl, by intro w hSw; (try dsimp only at hSw); go_simp⟩) (by assumption) ?_
      simp only [Act.put, List.getElem_toArray, List.getElem_cons_zero, List.getElem_cons_succ, List.setIfInBounds_toArray, List.set_cons_zero, List.set_cons_succ]
      refine wpAnyH_take (i := 13) (v := .pointer (some ⟨bk, o + i * 2, none⟩)) rfl (by kernel_rfl) (by kernel_rfl) (by kernel_rfl) (fun _ _ _ h => h) (Or.inl ⟨by rfl, by intro w hSw; (try dsimp only at hSw); go_simp⟩) (by assumption) ?_
      simp only [Act.put, List.getElem_toArray, List.getElem_cons_zero, List.getElem_cons_succ, List.setIfInBounds_toArray, List.set_cons_zero, List.set_cons_succ]
      refine wpAnyH_take (i := 14) (v := .pointer (some ⟨bk, o + i * 2, none⟩)) rfl (by kernel_rfl) (by kernel_rfl) (by kernel_rfl) (fun _ _ _ h => h) (Or.inl ⟨by rfl, by intro w hSw; (try dsimp only at hSw); go_simp⟩) (by assumption) ?_
      simp only [Act.put, List.getElem_toArray, List.getElem_cons_zero, List.getElem_cons_succ, List.setIfInBounds_toArray, List.set_cons_zero, List.set_cons_succ]
      refine wpAnyH_take (i := 15) (v := .int .u8 x) rfl (by kernel_rfl) (by kernel_rfl) (by kernel_rfl) (fun _ _ _ h => h) (Or.inl ⟨by rfl, by intro w hSw; (try dsimp only at hSw); go_simp⟩) (by assumption) ?_
      simp only [Act.put, List.getElem_toArray, List.getElem_cons_zero, List.getElem_cons_succ, List.setIfInBounds_toArray, List.set_cons_zero, List.set_cons_succ]
      refine wpAnyH_ready (rs := [5, 16]) (by kernel_rfl) (by simp) ?_
      refine AllReadyH.cons rfl (fun K hK => ?_) (AllReadyH.cons rfl (fun K hK => ?_) AllReadyH.nil)
      · go_simp
        refine (refSign_any _ _ n c i 45 l HTD.out.sm').mono ?_
        rintro e wa ⟨rfl, hbn⟩
        have HTA := Lib.hid (HTD.out.below hbn)
        replace hHeld := cell_b hbn hHeld
        refine hK.out _ _ hHeld (fun hHeld => ?_)
        rw [HBR.out]
        clear hK K hbn
        refine wpAnyH_ready (rs := [16]) (by kernel_rfl) (by simp) ?_
        refine AllReadyH.cons rfl (fun K hK => ?_) AllReadyH.nil
        go_simp
        have hbn := box1 wa (.cells #[.int .u8 x] 5)
        have HSB := Lib.hid (SB.lit wa 5 [x] #[.int .u8 x] (0, 0) 1 rfl (by have := HBB.out; simp; omega) (by simp))
        have HTB := Lib.hid (HTA.out.below hbn)
        replace hHeld := cell_b hbn hHeld
        generalize wa.heap.size = gs at HSB ⊢
        generalize wa.alloc (.cells #[.int .u8 x] 5) = wb at HSB HTB hHeld hbn ⊢
        refine hK.out _ _ hHeld (fun hHeld => ?_)
        clear hK K hbn
        refine wpAnyH_ready (rs := [17]) (by kernel_rfl) (by simp) ?_
        refine AllReadyH.cons rfl (fun K hK => ?_) AllReadyH.nil
        go_simp
        refine (refOf_any _ _ [x] HSB.out).mono ?_
        rintro e wc ⟨rfl, hbn⟩
        have HTC := Lib.hid (HTB.out.below hbn)
        replace hHeld := cell_b hbn hHeld
        refine hK.out _ _ hHeld (fun hHeld => ?_)
        clear hK K hbn
        obtain ⟨u0, u1, u2, u3, hu⟩ := isC_words _ (isC_ofL [x])
        rw [hu] at HEQ
        rw [hu, show row64 [u0, u1, u2, u3] = #[.int .u64 (u0 : Int), .int .u64 (u1 : Int), .int .u64 (u2 : Int), .int .u64 (u3 : Int)] from rfl]
        clear hu
        refine wpAnyH_take (i := 18) (v := .agg #[.int .i64 (i : Int), .int .i64 ((i : Int) + 1), .bool true, .bool bare, .int .u8 x, .int .u64 (u0 : Int), .int .u64 (u1 : Int), .int .u64 (u2 : Int), .int .u64 (u3 : Int), .int .i64 0]) rfl (by kernel_rfl) (by kernel_rfl) (by kernel_rfl) (fun _ _ _ h => h) (Or.inl ⟨by rfl, by intro w hSw; (try dsimp only at hSw); go_simp⟩) (by assumption) ?_
        simp only [Act.put, List.getElem_toArray, List.getElem_cons_zero, List.getElem_cons_succ, List.setIfInBounds_toArray, List.set_cons_zero, List.set_cons_succ]
        obtain ⟨q1, q2⟩ := HTC.out.done (rtC i (i + 1) true bare x u0 u1 u2 u3 0)
        have HQ := Lib.hid (And.intro q1 q2)
        clear q1 q2
        refine wpAnyH_ready (rs := [19]) (by kernel_rfl) (by simp) ?_
        refine AllReadyH.cons rfl (fun K hK => ?_) AllReadyH.nil
        refine wp_store_row TRt _ _ rfl g (rtC i (i + 1) true bare x u0 u1 u2 u3 0) rfl rfl TRt zRt HTC.out.box infoRt rfl (by kernel_rfl) ?_
        refine hK.out _ _ (setRow_cellF hHeld HNE.out) (fun hHeld => ?_)
        clear hK K
        refine wpAnyH_done (by kernel_rfl) ?_ _
        go_wp2_with fail
        exact ret_cls rfl rfl HQ.out.2 Tryd.underlying88 rfl infoRt rfl (rt_ok HEQ.out HBR.out HQ.out.1)
      · go_simp
        have hbn := box1 wd (.cells #[.int .u8 x] 5)
        have HSB := Lib.hid (SB.lit wd 5 [x] #[.int .u8 x] (0, 0) 1 rfl (by have := HBB.out; simp; omega) (by simp))
        have HTB := Lib.hid (HTD.out.below hbn)
        replace hHeld := cell_b hbn hHeld
        generalize wd.heap.size = gs at HSB ⊢
        generalize wd.alloc (.cells #[.int .u8 x] 5) = wb at HSB HTB hHeld hbn ⊢
        refine hK.out _ _ hHeld (fun hHeld => ?_)
        clear hK K hbn
        refine wpAnyH_ready (rs := [5]) (by kernel_rfl) (by simp) ?_
        refine AllReadyH.cons rfl (fun K hK => ?_) AllReadyH.nil
        go_simp
        refine (refSign_any _ _ n c i 45 l HTB.out.sm').mono ?_
        rintro e wa ⟨rfl, hbn⟩
        have HTA := Lib.hid (HTB.out.below hbn)
        have HSA := Lib.hid (HSB.out.below hbn)
        replace hHeld := cell_b hbn hHeld
        refine hK.out _ _ hHeld (fun hHeld => ?_)
        rw [HBR.out]
        clear hK K hbn
        refine wpAnyH_ready (rs := [17]) (by kernel_rfl) (by simp) ?_
        refine AllReadyH.cons rfl (fun K hK => ?_) AllReadyH.nil
        go_simp
        refine (refOf_any _ _ [x] HSA.out).mono ?_
        rintro e wc ⟨rfl, hbn⟩
        have HTC := Lib.hid (HTA.out.below hbn)
        replace hHeld := cell_b hbn hHeld
        refine hK.out _ _ hHeld (fun hHeld => ?_)
        clear hK K hbn
        obtain ⟨u0, u1, u2, u3, hu⟩ := isC_words _ (isC_ofL [x])
        rw [hu] at HEQ
        rw [hu, show row64 [u0, u1, u2, u3] = #[.int .u64 (u0 : Int), .int .u64 (u1 : Int), .int .u64 (u2 : Int), .int .u64 (u3 : Int)] from rfl]
        clear hu
        refine wpAnyH_take (i := 18) (v := .agg #[.int .i64 (i : Int), .int .i64 ((i : Int) + 1), .bool true, .bool bare, .int .u8 x, .int .u64 (u0 : Int), .int .u64 (u1 : Int), .int .u64 (u2 : Int), .int .u64 (u3 : Int), .int .i64 0]) rfl (by kernel_rfl) (by kernel_rfl) (by kernel_rfl) (fun _ _ _ h => h) (Or.inl ⟨by rfl, by intro w hSw; (try dsimp only at hSw); go_simp⟩) (by assumption) ?_
        simp only [Act.put, List.getElem_toArray, List.getElem_cons_zero, List.getElem_cons_succ, List.setIfInBounds_toArray, List.set_cons_zero, List.set_cons_succ]
        obtain ⟨q1, q2⟩ := HTC.out.done (rtC i (i + 1) true bare x u0 u1 u2 u3 0)
        have HQ := Lib.hid (And.intro q1 q2)
        clear q1 q2
        refine wpAnyH_ready (rs := [19]) (by kernel_rfl) (by simp) ?_
        refine AllReadyH.cons rfl (fun K hK => ?_) AllReadyH.nil
        refine wp_store_row TRt _ _ rfl g (rtC i (i + 1) true bare x u0 u1 u2 u3 0) rfl rfl TRt zRt HTC.out.box infoRt rfl (by kernel_rfl) ?_
        refine hK.out _ _ (setRow_cellF hHeld HNE.out) (fun hHeld => ?_)
        clear hK K
        refine wpAnyH_done (by kernel_rfl) ?_ _
        go_wp2_with fail
        exact ret_cls rfl rfl HQ.out.2 Tryd.underlying88 rfl infoRt rfl (rt_ok HEQ.out HBR.out HQ.out.1)
    | true =>
      go_wp2_with fail
      refine (refSign_any w2 a n c (i + 1) 58 l HN2.out.sm').mono ?_
      rintro e w3 ⟨rfl, hb⟩
      have HN3 := Lib.hid (HN2.out.below hb)
      clear hb
      cases h58 : sgn l (i + 1) 58 with
      | true =>
        have hkd : kindM l i = 58 := by unfold kindM; rw [h91, h58]; rfl
        have hk1 : i + 1 < n := by have := sgn_lt h58; rw [HL.out] at this; exact this
        have HEQ0 : Hid (thingM l op i = nameM l op i (l.length + 1) (i + 2) []) := Lib.hid (by unfold thingM; rw [hov', hkd]; rfl)
        have HBR : Hid (sgn l i 45 = false) := Lib.hid (by unfold sgn; rw [sgn_get h91]; simp)
        clear h91 h58 hkd hov'
        go_wp2_with fail
        go_loopw [5, 6] (fun v x wr => ∃ (k f : Nat) (text : List Int), k ≤ n + 1 ∧ x = .int .i64 (k : Int) ∧ NT w wr g a n c l op i f k v text) (fun _ x _ => n + 1 - (intOf x).toNat)
        case atStart => exact ⟨i + 2, l.length + 1, [], by omega, by go_num, ⟨HN3.out, OwnB.nil _ _, isB_nil, by simp, rfl, by rw [HL.out]; omega, (Array.getElem?_eq_some_iff.1 HN3.out.box).1⟩⟩
        case round =>
          clear HN3
          obtain ⟨k, f, text, hkn, rfl, hR⟩ := hrel
          have HR := Lib.hid hR
          clear hR
          by_cases hlt : k < n
          · have hd2 : decide ((k : Int) < (n : Int)) = true := decide_eq_true (by omega)
            go_wp2_with fail
            refine (refSign_any wr a n c k 58 l HR.out.tb.sm').mono ?_
            rintro e w4 ⟨rfl, hb⟩
            have HR4 := Lib.hid (HR.out.below hb)
            clear hb HR
            cases f with
            | zero => exfalso; have := HR4.out.fk; omega
            | succ f =>
              have HST : Hid (nameM l op i (f + 1) k text = if (sgn l k 58 && sgn l (k + 1) 93) = true then (if namedL (strI text) = noneL then .bad 31 i else .ok (namedL (strI text)) false 0 (k + 2)) else nameM l op i f (k + 1) (text ++ [byteM l k])) := Lib.hid (by
                conv => lhs; unfold nameM
                rw [if_neg (by unfold over; rw [HL.out]; simp; omega)])
              obtain ⟨bk, o, ha, hr⟩ := HR4.out.tb.sm.read k hlt
              subst ha
              have HBY := Lib.hid (HM.out k)
              have HRD := Lib.hid hr
              clear hr
              obtain ⟨cd, hcd⟩ : ∃ cd, (sgn l k 58 && sgn l (k + 1) 93) = cd := ⟨_, rfl⟩
              rw [hcd] at HST
              cases s58 : sgn l k 58 with
              | false =>
                have hcf : cd = false := by rw [← hcd, s58]; rfl
                subst hcf
                clear hcd
                obtain ⟨r0, -⟩ := HRD.out k hlt
                have r0 : w4.cell? ⟨bk, o + k * 2, none⟩ = some (.int .u8 (byteM l k)) := cell_bel HR4.out.tb.bel r0
                have hlen := HR4.out.len
                clear s58
                go_wp2_with (at_builtin; refine append_b1 rfl (.tmp 58) (.tmp 64) rfl (g + 1) _ text (byteM l k) rfl HR4.out.own rfl (by omega) HR4.out.sz ?_)
                intro tv' w8 ho hp
                have HNW : Hid (NT w w8 g _ n c l op i f (k + 1) tv' (text ++ [byteM l k])) := Lib.hid
                  ⟨HR4.out.tb.app HR4.out.own hp, ho, isB_snoc4 HR4.out.isb HBY.out.1 HBY.out.2, by rw [List.length_append, List.length_singleton]; have := HR4.out.len; omega, by rw [HR4.out.eq, HST.out]; rfl, by have := HR4.out.fk; omega, Nat.le_trans HR4.out.sz hp.size⟩
                clear ho hp r0 HST
                go_wp2_with fail
                go_roundw
                case rel => exact ⟨k + 1, f, text ++ [byteM l k], by omega, by go_num, HNW.out⟩
                case measure => simp [intOf]; omega
              | true =>
                go_wp2_with fail
                refine (refSign_any w4 _ n c (k + 1) 93 l HR4.out.tb.sm').mono ?_
                rintro e w5 ⟨rfl, hb⟩
                have HR5 := Lib.hid (HR4.out.below hb)
                clear hb HR4
                cases s93 : sgn l (k + 1) 93 with
                | false =>
                  have hcf : cd = false := by rw [← hcd, s58, s93]; rfl
                  subst hcf
                  clear hcd
                  obtain ⟨r0, -⟩ := HRD.out k hlt
                  have r0 : w5.cell? ⟨bk, o + k * 2, none⟩ = some (.int .u8 (byteM l k)) := cell_bel HR5.out.tb.bel r0
                  have hlen := HR5.out.len
                  clear s58 s93
                  go_wp2_with (at_builtin; refine append_b1 rfl (.tmp 58) (.tmp 64) rfl (g + 1) _ text (byteM l k) rfl HR5.out.own rfl (by omega) HR5.out.sz ?_)
                  intro tv' w8 ho hp
                  have HNW : Hid (NT w w8 g _ n c l op i f (k + 1) tv' (text ++ [byteM l k])) := Lib.hid
                    ⟨HR5.out.tb.app HR5.out.own hp, ho, isB_snoc4 HR5.out.isb HBY.out.1 HBY.out.2, by rw [List.length_append, List.length_singleton]; have := HR5.out.len; omega, by rw [HR5.out.eq, HST.out]; rfl, by have := HR5.out.fk; omega, Nat.le_trans HR5.out.sz hp.size⟩
                  clear ho hp r0 HST
                  go_wp2_with fail
                  go_roundw
                  case rel => exact ⟨k + 1, f, text ++ [byteM l k], by omega, by go_num, HNW.out⟩
                  case measure => simp [intOf]; omega
                | true =>
                  have hcf : cd = true := by rw [← hcd, s58, s93]; rfl
                  subst hcf
                  clear hcd
                  have HEQ : Hid (thingM l op i = if namedL (strI text) = noneL then .bad 31 i else .ok (namedL (strI text)) false 0 (k + 2)) := Lib.hid (by rw [HEQ0.out, HR5.out.eq, HST.out]; rfl)
                  obtain ⟨at6, ct, hat⟩ := own_shape HR5.out.own
                  subst hat
                  have hcv := run_strI w5 at6 text.length ct text (HR5.out.own.sb HR5.out.isb (by have := HR5.out.len; omega))
                  have hssz : (strI text).size ≤ 9223372036854775807 := by
                    have : (strI text).size = text.length := by simp [strI, ByteArray.size]
                    have := HR5.out.len
                    omega
                  obtain ⟨tl, htl⟩ : ∃ tl, text.length = tl := ⟨_, rfl⟩
                  rw [htl] at hcv ⊢
                  clear htl
                  go_wp2_with fail
                  refine (refNamed_any w5 (strI text) hssz).mono ?_
                  rintro e w6 ⟨rfl, hb⟩
                  have HT6 := Lib.hid (HR5.out.tb.below hb)
                  obtain ⟨q0, q1, q2, q3, hu⟩ := isC_words (namedL (strI text)) (isC_named _ 23)
                  clear hcv hb HR5
                  rw [hu] at HEQ
                  rw [hu, show row64 [q0, q1, q2, q3] = #[.int .u64 (q0 : Int), .int .u64 (q1 : Int), .int .u64 (q2 : Int), .int .u64 (q3 : Int)] from rfl]
                  clear hu
                  by_cases hz : [q0, q1, q2, q3] = noneL
                  · rw [if_pos hz] at HEQ
                    rw [decide_eq_true hz]
                    clear hz
                    go_upto_region 10 with fail
                    have HT7 := Lib.hid (HT6.out.below (box1 w6 (.cells #[.int .u64 (q0 : Int), .int .u64 (q1 : Int), .int .u64 (q2 : Int), .int .u64 (q3 : Int)] 28)))
                    generalize w6.alloc (.cells #[.int .u64 (q0 : Int), .int .u64 (q1 : Int), .int .u64 (q2 : Int), .int .u64 (q3 : Int)] 28) = w7 at HT7 ⊢
                    obtain ⟨q1, q2⟩ := HT7.out.done (rtC i 0 false false 0 0 0 0 0 31)
                    have HQ := Lib.hid (And.intro q1 q2)
                    clear q1 q2
                    go_wp2_with (refine wpList_store_row rfl TRt (.tmp 4) (.tmp 52) rfl rfl g TRt zRt (rtC i 0 false false 0 0 0 0 0 31) rfl rfl HT7.out.box rfl infoRt (rtC_one _ _ _ _ _ _ _ _ _ _) ?_)
                    exact ret_cls rfl rfl HQ.out.2 Tryd.underlying88 rfl infoRt rfl (rt_bad HEQ.out HQ.out.1)
                  · rw [if_neg hz] at HEQ
                    rw [decide_eq_false hz]
                    clear hz
                    go_upto_region 10 with fail
                    have HT7 := Lib.hid (HT6.out.below (box1 w6 (.cells #[.int .u64 (q0 : Int), .int .u64 (q1 : Int), .int .u64 (q2 : Int), .int .u64 (q3 : Int)] 28)))
                    have n7 := heap_alloc_new w6 (.cells #[.int .u64 (q0 : Int), .int .u64 (q1 : Int), .int .u64 (q2 : Int), .int .u64 (q3 : Int)] 28)
                    generalize w6.heap.size = g7 at n7 ⊢
                    generalize w6.alloc (.cells #[.int .u64 (q0 : Int), .int .u64 (q1 : Int), .int .u64 (q2 : Int), .int .u64 (q3 : Int)] 28) = w7 at HT7 n7 ⊢
                    obtain ⟨c0, c1, c2, c3⟩ := cells4n n7
                    clear n7
                    obtain ⟨q1, q2⟩ := HT7.out.done (rtC i (k + 2) false false 0 q0 q1 q2 q3 0)
                    have HQ := Lib.hid (And.intro q1 q2)
                    clear q1 q2
                    go_wp2_with (refine wpList_store_row rfl TRt (.tmp 4) (.tmp 57) rfl rfl g TRt zRt (rtC i (k + 2) false false 0 q0 q1 q2 q3 0) rfl rfl HT7.out.box rfl infoRt (rtC_one _ _ _ _ _ _ _ _ _ _) ?_)
                    exact ret_cls rfl rfl HQ.out.2 Tryd.underlying88 rfl infoRt rfl (rt_ok HEQ.out HBR.out HQ.out.1)
          · have hd2 : decide ((k : Int) < (n : Int)) = false := decide_eq_false (by omega)
            have HEQ : Hid (thingM l op i = .bad 32 op) := Lib.hid (by
              rw [HEQ0.out, HR.out.eq]
              cases f with
              | zero => rfl
              | succ f =>
                unfold nameM
                rw [if_pos (by unfold over; rw [HL.out]; exact decide_eq_true (by omega))])
            have HT := Lib.hid HR.out.tb
            clear HR
            obtain ⟨q1, q2⟩ := HT.out.done (rtC i 0 false false 0 0 0 0 0 32)
            have HQ := Lib.hid (And.intro q1 q2)
            clear q1 q2
            go_wp2_with (refine wpList_store_row rfl TRt (.tmp 4) (.tmp 67) rfl rfl g TRt zRt (rtC i 0 false false 0 0 0 0 0 32) rfl rfl HT.out.box rfl infoRt (rtC_one _ _ _ _ _ _ _ _ _ _) ?_)
            exact ret_cls rfl rfl HQ.out.2 Tryd.underlying88 rfl infoRt rfl (rt_bad HEQ.out HQ.out.1)
      | false =>
        go_wp2_with fail
        refine (refSign_any w3 a n c (i) 91 l HN3.out.sm').mono ?_
        rintro e w4 ⟨rfl, hb⟩
        have HN4 := Lib.hid (HN3.out.below hb)
        clear hb
        rw [h91]
        go_wp2_with fail
        refine (refSign_any w4 a n c (i + 1) 61 l HN4.out.sm').mono ?_
        rintro e w5 ⟨rfl, hb⟩
        have HN5 := Lib.hid (HN4.out.below hb)
        clear hb
        cases h61 : sgn l (i + 1) 61 with
        | true =>
          have hkd : kindM l i = 61 := by unfold kindM; rw [h91, h58, h61]; rfl
          have hk1 : i + 1 < n := by have := sgn_lt h61; rw [HL.out] at this; exact this
          have HT := Lib.hid (thing_long (op := op) hov' hkd (.inl rfl))
          obtain ⟨bk, o, ha, hr⟩ := HN5.out.sm'.read (i + 1) hk1
          obtain ⟨r0, r1⟩ := hr (i + 1) hk1
          rw [sgn_get h61] at r0 r1
          dsimp only at r0 r1
          subst ha
          have HR := Lib.hid hr
          have r0' : w5.cell? ⟨bk, o + (i * 2 + 2), none⟩ = some (.int .u8 61) := by rw [show i * 2 + 2 = (i + 1) * 2 by omega]; exact r0
          clear hr r1
          go_upto_region 17 with fail
          clear r0 r0'
          by_cases h3 : i + 3 < n
          · have d3 : decide ((i : Int) + 3 < (n : Int)) = true := decide_eq_true (by omega)
            have o3 : over l (i + 3) = false := decide_eq_false (by rw [HL.out]; omega)
            go_wp2_with fail
            refine (refSign_any w5 _ n c (i + 3) 61 l HN5.out.sm').mono ?_
            rintro e wl ⟨rfl, hb⟩
            have HL1 := Lib.hid (HN5.out.below hb)
            clear hb
            cases s3 : sgn l (i + 3) 61 with
            | false =>
              have HEQ : Hid (thingM l op i = .bad 31 i) := Lib.hid (by rw [HT.out, o3, s3]; rfl)
              obtain ⟨q1, q2⟩ := HL1.out.done (rtC i 0 false false 0 0 0 0 0 31)
              have HQ := Lib.hid (And.intro q1 q2)
              clear q1 q2
              go_wp2_with (refine wpList_store_row rfl TRt (.tmp 4) (.tmp 117) rfl rfl g TRt zRt (rtC i 0 false false 0 0 0 0 0 31) rfl rfl HL1.out.box rfl infoRt (rtC_one _ _ _ _ _ _ _ _ _ _) ?_)
              exact ret_cls rfl rfl HQ.out.2 Tryd.underlying88 rfl infoRt rfl (rt_bad HEQ.out HQ.out.1)
            | true =>
              by_cases h4 : i + 4 < n
              · have d4 : decide ((i : Int) + 4 < (n : Int)) = true := decide_eq_true (by omega)
                have o4 : over l (i + 4) = false := decide_eq_false (by rw [HL.out]; omega)
                go_wp2_with fail
                refine (refSign_any wl _ n c (i + 4) 93 l HL1.out.sm').mono ?_
                rintro e wm ⟨rfl, hb⟩
                have HL2 := Lib.hid (HL1.out.below hb)
                clear hb
                cases s4 : sgn l (i + 4) 93 with
                | false =>
                  have HEQ : Hid (thingM l op i = .bad 31 i) := Lib.hid (by rw [HT.out, o3, s3, o4, s4]; rfl)
                  obtain ⟨q1, q2⟩ := HL2.out.done (rtC i 0 false false 0 0 0 0 0 31)
                  have HQ := Lib.hid (And.intro q1 q2)
                  clear q1 q2
                  go_wp2_with (refine wpList_store_row rfl TRt (.tmp 4) (.tmp 117) rfl rfl g TRt zRt (rtC i 0 false false 0 0 0 0 0 31) rfl rfl HL2.out.box rfl infoRt (rtC_one _ _ _ _ _ _ _ _ _ _) ?_)
                  exact ret_cls rfl rfl HQ.out.2 Tryd.underlying88 rfl infoRt rfl (rt_bad HEQ.out HQ.out.1)
                | true =>
                  have HEQ : Hid (thingM l op i = .ok (ofL [byteM l (i + 2)]) false (byteM l (i + 2)) (i + 5)) := Lib.hid (by rw [HT.out, o3, s3, o4, s4]; rfl)
                  have hd5 : decide ((n : Int) ≤ (i : Int) + 4) = false := decide_eq_false (by omega)
                  obtain ⟨_, _, hae, hr⟩ := HL2.out.sm'.read (i + 2) (by omega)
                  simp only [Option.some.injEq, Addr.mk.injEq, and_true] at hae
                  obtain ⟨rfl, rfl⟩ := hae
                  obtain ⟨r0, -⟩ := hr (i + 2) (by omega)
                  have hby : byteM l (i + 2) = (l[i + 2]?.getD (0, false)).1 := rfl
                  have hbb : 0 ≤ byteM l (i + 2) ∧ byteM l (i + 2) ≤ 255 := HM.out (i + 2)
                  rw [← hby] at r0
                  generalize byteM l (i + 2) = x at HEQ r0 hbb
                  have HBB := Lib.hid hbb
                  have r0' : wm.cell? ⟨bk, o + (i * 2 + 4), none⟩ = some (.int .u8 x) := by rw [show i * 2 + 4 = (i + 2) * 2 by omega]; exact r0
                  clear hr hby hbb
                  go_upto_region 22 with fail
                  have HSB := Lib.hid (SB.lit wm 5 [x] #[.int .u8 x] (0, 0) 1 rfl (by have := HBB.out; simp; omega) (by simp))
                  have HL3 := Lib.hid (HL2.out.below (box1 wm (.cells #[.int .u8 x] 5)))
                  clear r0 r0'
                  go_wp2_with fail
                  refine (refOf_any _ _ [x] HSB.out).mono ?_
                  rintro e wn ⟨rfl, hb⟩
                  have HL4 := Lib.hid (HL3.out.below hb)
                  obtain ⟨u0, u1, u2, u3, hu⟩ := isC_words _ (isC_ofL [x])
                  rw [hu] at HEQ
                  rw [hu, show row64 [u0, u1, u2, u3] = #[.int .u64 (u0 : Int), .int .u64 (u1 : Int), .int .u64 (u2 : Int), .int .u64 (u3 : Int)] from rfl]
                  have HBR : Hid (sgn l i 45 = false) := Lib.hid (by unfold sgn; rw [sgn_get h91]; simp)
                  clear hu hb HSB HL3
                  obtain ⟨q1, q2⟩ := HL4.out.done (rtC i (i + 5) false false x u0 u1 u2 u3 0)
                  have HQ := Lib.hid (And.intro q1 q2)
                  clear q1 q2
                  go_wp2_with (refine wpList_store_row rfl TRt (.tmp 4) (.tmp 140) rfl rfl g TRt zRt (rtC i (i + 5) false false x u0 u1 u2 u3 0) rfl rfl HL4.out.box rfl infoRt (rtC_one _ _ _ _ _ _ _ _ _ _) ?_)
                  exact ret_cls rfl rfl HQ.out.2 Tryd.underlying88 rfl infoRt rfl (rt_ok HEQ.out HBR.out HQ.out.1)
              · have d4 : decide ((i : Int) + 4 < (n : Int)) = false := decide_eq_false (by omega)
                have d5 : decide ((n : Int) ≤ (i : Int) + 4) = true := decide_eq_true (by omega)
                have HEQ : Hid (thingM l op i = .bad 32 op) := Lib.hid (by rw [HT.out, o3, s3, show over l (i + 4) = true from decide_eq_true (by rw [HL.out]; omega)]; rfl)
                obtain ⟨q1, q2⟩ := HL1.out.done (rtC i 0 false false 0 0 0 0 0 32)
                have HQ := Lib.hid (And.intro q1 q2)
                clear q1 q2
                go_wp2_with (refine wpList_store_row rfl TRt (.tmp 4) (.tmp 124) rfl rfl g TRt zRt (rtC i 0 false false 0 0 0 0 0 32) rfl rfl HL1.out.box rfl infoRt (rtC_one _ _ _ _ _ _ _ _ _ _) ?_)
                exact ret_cls rfl rfl HQ.out.2 Tryd.underlying88 rfl infoRt rfl (rt_bad HEQ.out HQ.out.1)
          · have d3 : decide ((i : Int) + 3 < (n : Int)) = false := decide_eq_false (by omega)
            have d4 : decide ((i : Int) + 4 < (n : Int)) = false := decide_eq_false (by omega)
            have d5 : decide ((n : Int) ≤ (i : Int) + 4) = true := decide_eq_true (by omega)
            have HEQ : Hid (thingM l op i = .bad 32 op) := Lib.hid (by rw [HT.out, show over l (i + 3) = true from decide_eq_true (by rw [HL.out]; omega)]; rfl)
            obtain ⟨q1, q2⟩ := HN5.out.done (rtC i 0 false false 0 0 0 0 0 32)
            have HQ := Lib.hid (And.intro q1 q2)
            clear q1 q2
            go_wp2_with (refine wpList_store_row rfl TRt (.tmp 4) (.tmp 124) rfl rfl g TRt zRt (rtC i 0 false false 0 0 0 0 0 32) rfl rfl HN5.out.box rfl infoRt (rtC_one _ _ _ _ _ _ _ _ _ _) ?_)
            exact ret_cls rfl rfl HQ.out.2 Tryd.underlying88 rfl infoRt rfl (rt_bad HEQ.out HQ.out.1)
        | false =>
          go_wp2_with fail
          refine (refSign_any w5 a n c (i + 1) 46 l HN5.out.sm').mono ?_
          rintro e w6 ⟨rfl, hb⟩
          have HN6 := Lib.hid (HN5.out.below hb)
          clear hb
          cases h46 : sgn l (i + 1) 46 with
          | true =>
            have hkd : kindM l i = 46 := by unfold kindM; rw [h91, h58, h61, h46]; rfl
            have hk1 : i + 1 < n := by have := sgn_lt h46; rw [HL.out] at this; exact this
            have HT := Lib.hid (thing_long (op := op) hov' hkd (.inr rfl))
            obtain ⟨bk, o, ha, hr⟩ := HN6.out.sm'.read (i + 1) hk1
            obtain ⟨r0, r1⟩ := hr (i + 1) hk1
            rw [sgn_get h46] at r0 r1
            dsimp only at r0 r1
            subst ha
            have HR := Lib.hid hr
            have r0' : w6.cell? ⟨bk, o + (i * 2 + 2), none⟩ = some (.int .u8 46) := by rw [show i * 2 + 2 = (i + 1) * 2 by omega]; exact r0
            clear hr r1
            go_upto_region 17 with fail
            clear r0 r0'
            by_cases h3 : i + 3 < n
            · have d3 : decide ((i : Int) + 3 < (n : Int)) = true := decide_eq_true (by omega)
              have o3 : over l (i + 3) = false := decide_eq_false (by rw [HL.out]; omega)
              go_wp2_with fail
              refine (refSign_any w6 _ n c (i + 3) 46 l HN6.out.sm').mono ?_
              rintro e wl ⟨rfl, hb⟩
              have HL1 := Lib.hid (HN6.out.below hb)
              clear hb
              cases s3 : sgn l (i + 3) 46 with
              | false =>
                have HEQ : Hid (thingM l op i = .bad 31 i) := Lib.hid (by rw [HT.out, o3, s3]; rfl)
                obtain ⟨q1, q2⟩ := HL1.out.done (rtC i 0 false false 0 0 0 0 0 31)
                have HQ := Lib.hid (And.intro q1 q2)
                clear q1 q2
                go_wp2_with (refine wpList_store_row rfl TRt (.tmp 4) (.tmp 117) rfl rfl g TRt zRt (rtC i 0 false false 0 0 0 0 0 31) rfl rfl HL1.out.box rfl infoRt (rtC_one _ _ _ _ _ _ _ _ _ _) ?_)
                exact ret_cls rfl rfl HQ.out.2 Tryd.underlying88 rfl infoRt rfl (rt_bad HEQ.out HQ.out.1)
              | true =>
                by_cases h4 : i + 4 < n
                · have d4 : decide ((i : Int) + 4 < (n : Int)) = true := decide_eq_true (by omega)
                  have o4 : over l (i + 4) = false := decide_eq_false (by rw [HL.out]; omega)
                  go_wp2_with fail
                  refine (refSign_any wl _ n c (i + 4) 93 l HL1.out.sm').mono ?_
                  rintro e wm ⟨rfl, hb⟩
                  have HL2 := Lib.hid (HL1.out.below hb)
                  clear hb
                  cases s4 : sgn l (i + 4) 93 with
                  | false =>
                    have HEQ : Hid (thingM l op i = .bad 31 i) := Lib.hid (by rw [HT.out, o3, s3, o4, s4]; rfl)
                    obtain ⟨q1, q2⟩ := HL2.out.done (rtC i 0 false false 0 0 0 0 0 31)
                    have HQ := Lib.hid (And.intro q1 q2)
                    clear q1 q2
                    go_wp2_with (refine wpList_store_row rfl TRt (.tmp 4) (.tmp 117) rfl rfl g TRt zRt (rtC i 0 false false 0 0 0 0 0 31) rfl rfl HL2.out.box rfl infoRt (rtC_one _ _ _ _ _ _ _ _ _ _) ?_)
                    exact ret_cls rfl rfl HQ.out.2 Tryd.underlying88 rfl infoRt rfl (rt_bad HEQ.out HQ.out.1)
                  | true =>
                    have HEQ : Hid (thingM l op i = .ok (ofL [byteM l (i + 2)]) true (byteM l (i + 2)) (i + 5)) := Lib.hid (by rw [HT.out, o3, s3, o4, s4]; rfl)
                    have hd5 : decide ((n : Int) ≤ (i : Int) + 4) = false := decide_eq_false (by omega)
                    obtain ⟨_, _, hae, hr⟩ := HL2.out.sm'.read (i + 2) (by omega)
                    simp only [Option.some.injEq, Addr.mk.injEq, and_true] at hae
                    obtain ⟨rfl, rfl⟩ := hae
                    obtain ⟨r0, -⟩ := hr (i + 2) (by omega)
                    have hby : byteM l (i + 2) = (l[i + 2]?.getD (0, false)).1 := rfl
                    have hbb : 0 ≤ byteM l (i + 2) ∧ byteM l (i + 2) ≤ 255 := HM.out (i + 2)
                    rw [← hby] at r0
                    generalize byteM l (i + 2) = x at HEQ r0 hbb
                    have HBB := Lib.hid hbb
                    have r0' : wm.cell? ⟨bk, o + (i * 2 + 4), none⟩ = some (.int .u8 x) := by rw [show i * 2 + 4 = (i + 2) * 2 by omega]; exact r0
                    clear hr hby hbb
                    go_upto_region 22 with fail
                    have HSB := Lib.hid (SB.lit wm 5 [x] #[.int .u8 x] (0, 0) 1 rfl (by have := HBB.out; simp; omega) (by simp))
                    have HL3 := Lib.hid (HL2.out.below (box1 wm (.cells #[.int .u8 x] 5)))
                    clear r0 r0'
                    go_wp2_with fail
                    refine (refOf_any _ _ [x] HSB.out).mono ?_
                    rintro e wn ⟨rfl, hb⟩
                    have HL4 := Lib.hid (HL3.out.below hb)
                    obtain ⟨u0, u1, u2, u3, hu⟩ := isC_words _ (isC_ofL [x])
                    rw [hu] at HEQ
                    rw [hu, show row64 [u0, u1, u2, u3] = #[.int .u64 (u0 : Int), .int .u64 (u1 : Int), .int .u64 (u2 : Int), .int .u64 (u3 : Int)] from rfl]
                    have HBR : Hid (sgn l i 45 = false) := Lib.hid (by unfold sgn; rw [sgn_get h91]; simp)
                    clear hu hb HSB HL3
                    obtain ⟨q1, q2⟩ := HL4.out.done (rtC i (i + 5) true false x u0 u1 u2 u3 0)
                    have HQ := Lib.hid (And.intro q1 q2)
                    clear q1 q2
                    go_wp2_with (refine wpList_store_row rfl TRt (.tmp 4) (.tmp 140) rfl rfl g TRt zRt (rtC i (i + 5) true false x u0 u1 u2 u3 0) rfl rfl HL4.out.box rfl infoRt (rtC_one _ _ _ _ _ _ _ _ _ _) ?_)
                    exact ret_cls rfl rfl HQ.out.2 Tryd.underlying88 rfl infoRt rfl (rt_ok HEQ.out HBR.out HQ.out.1)
                · have d4 : decide ((i : Int) + 4 < (n : Int)) = false := decide_eq_false (by omega)
                  have d5 : decide ((n : Int) ≤ (i : Int) + 4) = true := decide_eq_true (by omega)
                  have HEQ : Hid (thingM l op i = .bad 32 op) := Lib.hid (by rw [HT.out, o3, s3, show over l (i + 4) = true from decide_eq_true (by rw [HL.out]; omega)]; rfl)
                  obtain ⟨q1, q2⟩ := HL1.out.done (rtC i 0 false false 0 0 0 0 0 32)
                  have HQ := Lib.hid (And.intro q1 q2)
                  clear q1 q2
                  go_wp2_with (refine wpList_store_row rfl TRt (.tmp 4) (.tmp 124) rfl rfl g TRt zRt (rtC i 0 false false 0 0 0 0 0 32) rfl rfl HL1.out.box rfl infoRt (rtC_one _ _ _ _ _ _ _ _ _ _) ?_)
                  exact ret_cls rfl rfl HQ.out.2 Tryd.underlying88 rfl infoRt rfl (rt_bad HEQ.out HQ.out.1)
            · have d3 : decide ((i : Int) + 3 < (n : Int)) = false := decide_eq_false (by omega)
              have d4 : decide ((i : Int) + 4 < (n : Int)) = false := decide_eq_false (by omega)
              have d5 : decide ((n : Int) ≤ (i : Int) + 4) = true := decide_eq_true (by omega)
              have HEQ : Hid (thingM l op i = .bad 32 op) := Lib.hid (by rw [HT.out, show over l (i + 3) = true from decide_eq_true (by rw [HL.out]; omega)]; rfl)
              obtain ⟨q1, q2⟩ := HN6.out.done (rtC i 0 false false 0 0 0 0 0 32)
              have HQ := Lib.hid (And.intro q1 q2)
              clear q1 q2
              go_wp2_with (refine wpList_store_row rfl TRt (.tmp 4) (.tmp 124) rfl rfl g TRt zRt (rtC i 0 false false 0 0 0 0 0 32) rfl rfl HN6.out.box rfl infoRt (rtC_one _ _ _ _ _ _ _ _ _ _) ?_)
              exact ret_cls rfl rfl HQ.out.2 Tryd.underlying88 rfl infoRt rfl (rt_bad HEQ.out HQ.out.1)
          | false =>
            have hk0 : kindM l i = 0 := by unfold kindM; rw [h91, h58, h61, h46]; rfl
            have HEQ : Hid (thingM l op i = .ok (ofL [byteM l i]) true (byteM l i) (i + 1)) := Lib.hid (by unfold thingM; rw [hov', hk0]; rfl)
            clear h91 h58 h61 h46
            go_upto_region 23 with fail
            obtain ⟨bk, o, ha, hr⟩ := HN6.out.sm'.read i (by omega)
            subst ha
            obtain ⟨r0, -⟩ := hr i (by omega)
            have hby : byteM l i = (l[i]?.getD (0, false)).1 := rfl
            have hbb : 0 ≤ byteM l i ∧ byteM l i ≤ 255 := HM.out i
            rw [← hby] at r0
            generalize byteM l i = x at HEQ r0 hbb
            have HBB := Lib.hid hbb
            clear hr hby hbb
            have hwr : IntKind.i64.wrap ((i : Int) + 1) = (i : Int) + 1 := by rw [IntKind.wrap_i64]; omega
            obtain ⟨bare, hbare⟩ : ∃ bare, sgn l i 45 = bare := ⟨_, rfl⟩
            have HBR := Lib.hid hbare
            clear hbare
            have HNE : Hid (bk ≠ g) := Lib.hid (by
              have := World.block_lt_of_cell? w _ (cell_w0 HN6.out i (by omega))
              have := HN6.out.lg
              simp only at *
              omega)
            have HTD := Lib.hid (HN6.out.below (Below.refl _ w6).drew)
            have r0 : w6.drew.cell? ⟨bk, o + i * 2, none⟩ = some (.int .u8 x) := r0
            refine wp_region_held_drew (S := fun w' => w'.cell? ⟨bk, o + i * 2, none⟩ = some (.int .u8 x)) (by kernel_rfl) r0 (fun hHeld => ?_)
            generalize w6.drew = wd at HTD hHeld ⊢
            clear r0
            refine wpAnyH_take (i := 0) (v := .int .i64 (i : Int)) rfl (by kernel_rfl) (by kernel_rfl) (by kernel_rfl) (fun _ _ _ h => h) (Or.inl ⟨by rfl, by intro w hSw; (try dsimp only at hSw); go_simp⟩) (by assumption) ?_
            simp only [Act.put, List.getElem_toArray, List.getElem_cons_zero, List.setIfInBounds_toArray, List.set_cons_zero, List.set_cons_succ]
            refine wpAnyH_take (i := 1) (v := .int .i64 (i : Int)) rfl (by kernel_rfl) (by kernel_rfl) (by kernel_rfl) (fun _ _ _ h => h) (Or.inl ⟨by rfl, by intro w hSw; (try dsimp only at hSw); go_simp⟩) (by assumption) ?_
            simp only [Act.put, List.getElem_toArray, List.getElem_cons_zero, List.getElem_cons_succ, List.setIfInBounds_toArray, List.set_cons_zero, List.set_cons_succ]
            refine wpAnyH_take (i := 2) (v := .int .i64 ((i : Int) + 1)) rfl (by kernel_rfl) (by kernel_rfl) (by kernel_rfl) (fun _ _ _ h => h) (Or.inl ⟨by rfl, by intro w hSw; (try dsimp only at hSw); go_simp⟩) (by assumption) ?_
            simp only [Act.put, List.getElem_toArray, List.getElem_cons_zero, List.getElem_cons_succ, List.setIfInBounds_toArray, List.set_cons_zero, List.set_cons_succ]
            refine wpAnyH_take (i := 3) (v := .slice (some ⟨bk, o, none⟩) n c) rfl (by kernel_rfl) (by kernel_rfl) (by kernel_rfl) (fun _ _ _ h => h) (Or.inl ⟨by rfl, by intro w hSw; (try dsimp only at hSw); go_simp⟩) (by assumption) ?_
            simp only [Act.put, List.getElem_toArray, List.getElem_cons_zero, List.getElem_cons_succ, List.setIfInBounds_toArray, List.set_cons_zero, List.set_cons_succ]
            refine wpAnyH_take (i := 4) (v := .int .i64 (i : Int)) rfl (by kernel_rfl) (by kernel_rfl) (by kernel_rfl) (fun _ _ _ h => h) (Or.inl ⟨by rfl, by intro w hSw; (try dsimp only at hSw); go_simp⟩) (by assumption) ?_
            simp only [Act.put, List.getElem_toArray, List.getElem_cons_zero, List.getElem_cons_succ, List.setIfInBounds_toArray, List.set_cons_zero, List.set_cons_succ]
            refine wpAnyH_take (i := 6) (v := .slice (some ⟨bk, o, none⟩) n c) rfl (by kernel_rfl) (by kernel_rfl) (by kernel_rfl) (fun _ _ _ h => h) (Or.inl ⟨by rfl, by intro w hSw; (try dsimp only at hSw); go_simp⟩) (by assumption) ?_
            simp only [Act.put, List.getElem_toArray, List.getElem_cons_zero, List.getElem_cons_succ, List.setIfInBounds_toArray, List.set_cons_zero, List.set_cons_succ]
            refine wpAnyH_take (i := 7) (v := .int .i64 (i : Int)) rfl (by kernel_rfl) (by kernel_rfl) (by kernel_rfl) (fun _ _ _ h => h) (Or.inl ⟨by rfl, by intro w hSw; (try dsimp only at hSw); go_simp⟩) (by assumption) ?_
            simp only [Act.put, List.getElem_toArray, List.getElem_cons_zero, List.getElem_cons_succ, List.setIfInBounds_toArray, List.set_cons_zero, List.set_cons_succ]
            refine wpAnyH_take (i := 8) (v := .pointer (some ⟨bk, o + i * 2, none⟩)) rfl (by kernel_rfl) (by kernel_rfl) (by kernel_rfl) (fun _ _ _ h => h) (Or.inl ⟨by rfl, by intro w hSw; (try dsimp only at hSw); go_simp⟩) (by assumption) ?_
            simp only [Act.put, List.getElem_toArray, List.getElem_cons_zero, List.getElem_cons_succ, List.setIfInBounds_toArray, List.set_cons_zero, List.set_cons_succ]
            refine wpAnyH_take (i := 9) (v := .pointer (some ⟨bk, o + i * 2, none⟩)) rfl (by kernel_rfl) (by kernel_rfl) (by kernel_rfl) (fun _ _ _ h => h) (Or.inl ⟨by rfl, by intro w hSw; (try dsimp only at hSw); go_simp⟩) (by assumption) ?_
            simp only [Act.put, List.getElem_toArray, List.getElem_cons_zero, List.getElem_cons_succ, List.setIfInBounds_toArray, List.set_cons_zero, List.set_cons_succ]
            refine wpAnyH_take (i := 10) (v := .int .u8 x) rfl (by kernel_rfl) (by kernel_rfl) (by kernel_rfl) (fun _ _ _ h => h) (Or.inl ⟨by rfl, by intro w hSw; (try dsimp only at hSw); go_simp⟩) (by assumption) ?_
            simp only [Act.put, List.getElem_toArray, List.getElem_cons_zero, List.getElem_cons_succ, List.setIfInBounds_toArray, List.set_cons_zero, List.set_cons_succ]
            refine wpAnyH_take (i := 11) (v := .slice (some ⟨bk, o, none⟩) n c) rfl (by kernel_rfl) (by kernel_rfl) (by kernel_rfl) (fun _ _ _ h => h) (Or.inl ⟨by rfl, by intro w hSw; (try dsimp only at hSw); go_simp⟩) (by assumption) ?_
            simp only [Act.put, List.getElem_toArray, List.getElem_cons_zero, List.getElem_cons_succ, List.setIfInBounds_toArray, List.set_cons_zero, List.set_cons_succ]
            refine wpAnyH_take (i := 12) (v := .int .i64 (i : Int)) rfl (by kernel_rfl) (by kernel_rfl) (by kernel_rfl) (fun _ _ _ h => h) (Or.inl ⟨by rfl, by intro w hSw; (try dsimp only at hSw); go_simp⟩) (by assumption) ?_
            simp only [Act.put, List.getElem_toArray, List.getElem_cons_zero, List.getElem_cons_succ, List.setIfInBounds_toArray, List.set_cons_zero, List.set_cons_succ]
            refine wpAnyH_take (i := 13) (v := .pointer (some ⟨bk, o + i * 2, none⟩)) rfl (by kernel_rfl) (by kernel_rfl) (by kernel_rfl) (fun _ _ _ h => h) (Or.inl ⟨by rfl, by intro w hSw; (try dsimp only at hSw); go_simp⟩) (by assumption) ?_
            simp only [Act.put, List.getElem_toArray, List.getElem_cons_zero, List.getElem_cons_succ, List.setIfInBounds_toArray, List.set_cons_zero, List.set_cons_succ]
            refine wpAnyH_take (i := 14) (v := .pointer (some ⟨bk, o + i * 2, none⟩)) rfl (by kernel_rfl) (by kernel_rfl) (by kernel_rfl) (fun _ _ _ h => h) (Or.inl ⟨by rfl, by intro w hSw; (try dsimp only at hSw); go_simp⟩) (by assumption) ?_
            simp only [Act.put, List.getElem_toArray, List.getElem_cons_zero, List.getElem_cons_succ, List.setIfInBounds_toArray, List.set_cons_zero, List.set_cons_succ]
            refine wpAnyH_take (i := 15) (v := .int .u8 x) rfl (by kernel_rfl) (by kernel_rfl) (by kernel_rfl) (fun _ _ _ h => h) (Or.inl ⟨by rfl, by intro w hSw; (try dsimp only at hSw); go_simp⟩) (by assumption) ?_
            simp only [Act.put, List.getElem_toArray, List.getElem_cons_zero, List.getElem_cons_succ, List.setIfInBounds_toArray, List.set_cons_zero, List.set_cons_succ]
            refine wpAnyH_ready (rs := [5, 16]) (by kernel_rfl) (by simp) ?_
            refine AllReadyH.cons rfl (fun K hK => ?_) (AllReadyH.cons rfl (fun K hK => ?_) AllReadyH.nil)
            · go_simp
              refine (refSign_any _ _ n c i 45 l HTD.out.sm').mono ?_
              rintro e wa ⟨rfl, hbn⟩
              have HTA := Lib.hid (HTD.out.below hbn)
              replace hHeld := cell_b hbn hHeld
              refine hK.out _ _ hHeld (fun hHeld => ?_)
              rw [HBR.out]
              clear hK K hbn
              refine wpAnyH_ready (rs := [16]) (by kernel_rfl) (by simp) ?_
              refine AllReadyH.cons rfl (fun K hK => ?_) AllReadyH.nil
              go_simp
              have hbn := box1 wa (.cells #[.int .u8 x] 5)
              have HSB := Lib.hid (SB.lit wa 5 [x] #[.int .u8 x] (0, 0) 1 rfl (by have := HBB.out; simp; omega) (by simp))
              have HTB := Lib.hid (HTA.out.below hbn)
              replace hHeld := cell_b hbn hHeld
              generalize wa.heap.size = gs at HSB ⊢
              generalize wa.alloc (.cells #[.int .u8 x] 5) = wb at HSB HTB hHeld hbn ⊢
              refine hK.out _ _ hHeld (fun hHeld => ?_)
              clear hK K hbn
              refine wpAnyH_ready (rs := [17]) (by kernel_rfl) (by simp) ?_
              refine AllReadyH.cons rfl (fun K hK => ?_) AllReadyH.nil
              go_simp
              refine (refOf_any _ _ [x] HSB.out).mono ?_
              rintro e wc ⟨rfl, hbn⟩
              have HTC := Lib.hid (HTB.out.below hbn)
              replace hHeld := cell_b hbn hHeld
              refine hK.out _ _ hHeld (fun hHeld => ?_)
              clear hK K hbn
              obtain ⟨u0, u1, u2, u3, hu⟩ := isC_words _ (isC_ofL [x])
              rw [hu] at HEQ
              rw [hu, show row64 [u0, u1, u2, u3] = #[.int .u64 (u0 : Int), .int .u64 (u1 : Int), .int .u64 (u2 : Int), .int .u64 (u3 : Int)] from rfl]
              clear hu
              refine wpAnyH_take (i := 18) (v := .agg #[.int .i64 (i : Int), .int .i64 ((i : Int) + 1), .bool true, .bool bare, .int .u8 x, .int .u64 (u0 : Int), .int .u64 (u1 : Int), .int .u64 (u2 : Int), .int .u64 (u3 : Int), .int .i64 0]) rfl (by kernel_rfl) (by kernel_rfl) (by kernel_rfl) (fun _ _ _ h => h) (Or.inl ⟨by rfl, by intro w hSw; (try dsimp only at hSw); go_simp⟩) (by assumption) ?_
              simp only [Act.put, List.getElem_toArray, List.getElem_cons_zero, List.getElem_cons_succ, List.setIfInBounds_toArray, List.set_cons_zero, List.set_cons_succ]
              obtain ⟨q1, q2⟩ := HTC.out.done (rtC i (i + 1) true bare x u0 u1 u2 u3 0)
              have HQ := Lib.hid (And.intro q1 q2)
              clear q1 q2
              refine wpAnyH_ready (rs := [19]) (by kernel_rfl) (by simp) ?_
              refine AllReadyH.cons rfl (fun K hK => ?_) AllReadyH.nil
              refine wp_store_row TRt _ _ rfl g (rtC i (i + 1) true bare x u0 u1 u2 u3 0) rfl rfl TRt zRt HTC.out.box infoRt rfl (by kernel_rfl) ?_
              refine hK.out _ _ (setRow_cellF hHeld HNE.out) (fun hHeld => ?_)
              clear hK K
              refine wpAnyH_done (by kernel_rfl) ?_ _
              go_wp2_with fail
              exact ret_cls rfl rfl HQ.out.2 Tryd.underlying88 rfl infoRt rfl (rt_ok HEQ.out HBR.out HQ.out.1)
            · go_simp
              have hbn := box1 wd (.cells #[.int .u8 x] 5)
              have HSB := Lib.hid (SB.lit wd 5 [x] #[.int .u8 x] (0, 0) 1 rfl (by have := HBB.out; simp; omega) (by simp))
              have HTB := Lib.hid (HTD.out.below hbn)
              replace hHeld := cell_b hbn hHeld
              generalize wd.heap.size = gs at HSB ⊢
              generalize wd.alloc (.cells #[.int .u8 x] 5) = wb at HSB HTB hHeld hbn ⊢
              refine hK.out _ _ hHeld (fun hHeld => ?_)
              clear hK K hbn
              refine wpAnyH_ready (rs := [5]) (by kernel_rfl) (by simp) ?_
              refine AllReadyH.cons rfl (fun K hK => ?_) AllReadyH.nil
              go_simp
              refine (refSign_any _ _ n c i 45 l HTB.out.sm').mono ?_
              rintro e wa ⟨rfl, hbn⟩
              have HTA := Lib.hid (HTB.out.below hbn)
              have HSA := Lib.hid (HSB.out.below hbn)
              replace hHeld := cell_b hbn hHeld
              refine hK.out _ _ hHeld (fun hHeld => ?_)
              rw [HBR.out]
              clear hK K hbn
              refine wpAnyH_ready (rs := [17]) (by kernel_rfl) (by simp) ?_
              refine AllReadyH.cons rfl (fun K hK => ?_) AllReadyH.nil
              go_simp
              refine (refOf_any _ _ [x] HSA.out).mono ?_
              rintro e wc ⟨rfl, hbn⟩
              have HTC := Lib.hid (HTA.out.below hbn)
              replace hHeld := cell_b hbn hHeld
              refine hK.out _ _ hHeld (fun hHeld => ?_)
              clear hK K hbn
              obtain ⟨u0, u1, u2, u3, hu⟩ := isC_words _ (isC_ofL [x])
              rw [hu] at HEQ
              rw [hu, show row64 [u0, u1, u2, u3] = #[.int .u64 (u0 : Int), .int .u64 (u1 : Int), .int .u64 (u2 : Int), .int .u64 (u3 : Int)] from rfl]
              clear hu
              refine wpAnyH_take (i := 18) (v := .agg #[.int .i64 (i : Int), .int .i64 ((i : Int) + 1), .bool true, .bool bare, .int .u8 x, .int .u64 (u0 : Int), .int .u64 (u1 : Int), .int .u64 (u2 : Int), .int .u64 (u3 : Int), .int .i64 0]) rfl (by kernel_rfl) (by kernel_rfl) (by kernel_rfl) (fun _ _ _ h => h) (Or.inl ⟨by rfl, by intro w hSw; (try dsimp only at hSw); go_simp⟩) (by assumption) ?_
              simp only [Act.put, List.getElem_toArray, List.getElem_cons_zero, List.getElem_cons_succ, List.setIfInBounds_toArray, List.set_cons_zero, List.set_cons_succ]
              obtain ⟨q1, q2⟩ := HTC.out.done (rtC i (i + 1) true bare x u0 u1 u2 u3 0)
              have HQ := Lib.hid (And.intro q1 q2)
              clear q1 q2
              refine wpAnyH_ready (rs := [19]) (by kernel_rfl) (by simp) ?_
              refine AllReadyH.cons rfl (fun K hK => ?_) AllReadyH.nil
              refine wp_store_row TRt _ _ rfl g (rtC i (i + 1) true bare x u0 u1 u2 u3 0) rfl rfl TRt zRt HTC.out.box infoRt rfl (by kernel_rfl) ?_
              refine hK.out _ _ (setRow_cellF hHeld HNE.out) (fun hHeld => ?_)
              clear hK K
              refine wpAnyH_done (by kernel_rfl) ?_ _
              go_wp2_with fail
              exact ret_cls rfl rfl HQ.out.2 Tryd.underlying88 rfl infoRt rfl (rt_ok HEQ.out HBR.out HQ.out.1)
end Go.Proofs.YthegepiafodpjaaDoor
