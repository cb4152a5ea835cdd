/-
  bracket.Parse.
-/
import Derived.Test.YthegepiafodpjaaDoorBrB
namespace Go.Proofs.YthegepiafodpjaaDoor
open Go.RowKit

theorem parse_br (l : List Mk) (op : Nat) (h : sgn l op 91 = true) : parseB l (op : Int) = match brM l op with
    | .bad e p => (noneL, (p : Int), (e : Int))
    | .ok set _ _ i => (set, (i : Int), 0) := by
  unfold parseB brM
  rw [if_neg (by simp [h]), show ((op : Int)).toNat = op by simp]
  simp only
  cases itemsM l op (if sgn l (op + 1) 94 then op + 2 else op + 1) (l.length + 1) (if sgn l (op + 1) 94 then op + 2 else op + 1) noneL with
  | ok set fin v next => simp
  | bad e p => rfl
theorem parse_arg (l : List Mk) (at' : Int) (h : at' < 0 ∨ sgn l at'.toNat 91 = false) : parseB l at' = (noneL, 0, 1) := by unfold parseB; rw [if_pos h]
theorem items_okC (l : List Mk) (op fs : Nat) : ∀ (f i : Nat) (set : List Nat), IsC set → OkC (itemsM l op fs f i set)
  | 0, _, _, _ => trivial
  | f + 1, i, set, hs => by
    unfold itemsM
    split
    · exact hs
    · have h1 := item_okC l op i (decide (i = fs))
      split
      · trivial
      · rename_i h
        rw [h] at h1
        exact items_okC l op fs f _ _ (isC_or _ _ hs h1)
theorem items_bad (l : List Mk) (op fs : Nat) : ∀ (f i : Nat) (set : List Nat), BadE (itemsM l op fs f i set)
  | 0, _, _ => .inr (.inr rfl)
  | f + 1, i, set => by
    unfold itemsM
    split
    · trivial
    · have h1 := item_bad l op i (decide (i = fs))
      split
      · rename_i h
        rw [h] at h1
        exact h1
      · exact items_bad l op fs f _ _
theorem br_okC (l : List Mk) (op : Nat) : OkC (brM l op) := by
  have h1 := items_okC l op (if sgn l (op + 1) 94 then op + 2 else op + 1) (l.length + 1) (if sgn l (op + 1) 94 then op + 2 else op + 1) noneL isC_none
  unfold brM
  split
  · trivial
  · rename_i h
    rw [h] at h1
    show IsC _
    split
    · exact isC_not _ h1
    · exact h1
theorem br_bad (l : List Mk) (op : Nat) : BadE (brM l op) := by
  have h1 := items_bad l op (if sgn l (op + 1) 94 then op + 2 else op + 1) (l.length + 1) (if sgn l (op + 1) 94 then op + 2 else op + 1) noneL
  unfold brM
  split
  · rename_i h
    rw [h] at h1
    exact h1
  · trivial
theorem two_new (w : World) (cs cf : Array Value) (g : Nat) (o : Obj) (h : w.heap[g]? = some o) : ∃ w1 g8 g10, (w.alloc (.cells cs TCl)).alloc (.cells cf TFa) = w1 ∧ w.heap.size = g8 ∧ w.heap.size + 1 = g10 ∧ w1.heap[g8]? = some (.cells cs TCl (0, 0)) ∧ w1.heap[g10]? = some (.cells cf TFa (0, 0)) ∧ Below w.heap.size w w1 ∧ g10 ≠ g := by
  refine ⟨_, _, _, rfl, rfl, rfl, ?_⟩
  have b1 := box1 w (.cells cs TCl)
  have n1 := heap_alloc_new w (.cells cs TCl)
  have e1 : (w.alloc (.cells cs TCl)).heap.size = w.heap.size + 1 := by simp
  have k := (Array.getElem?_eq_some_iff.1 h).1
  generalize w.alloc (.cells cs TCl) = w1 at b1 n1 e1 ⊢
  have b2 := box1 w1 (.cells cf TFa)
  have n2 := heap_alloc_new w1 (.cells cf TFa)
  rw [e1] at n2
  exact ⟨heap_b b2 n1, n2, b1.trans (b2.mono (by omega)), by omega⟩
def PaPost (w : World) (r : BRes) (e : Ending) (w' : World) : Prop := e = .returned (.tuple #[.agg (row64 r.1), .int .i64 r.2.1, .int .i64 r.2.2]) ∧ Below w.heap.size w w'
/-- Three results: a class in a box, and two slots. -/
theorem ret_box3 {P : Program} {fn : Func} {p q r : Tmp} {ty : TypeId} (h : fn.results = #[.cell p ty, .tmp q, .tmp r]) {R : Ending → World → Prop} {a : Act} {w : World} {g : Nat} {t : TypeId} {cs : Array Value} {d : TypeDesc}
    (hp : a.tmps.getD p undef = .pointer (some ⟨g, 0, none⟩)) (hg : w.heap[g]? = some (.cells cs t (0, 0)))
    (hu : P.underlying ty = some d) (hd : (match d with | .struct _ | .array _ _ => true | _ => false) = true) (hi : (P.info? ty).map (·.size) = some cs.size) (hdef : a.defers = [])
    (hR : R (.returned (.tuple #[.agg cs, a.tmps.getD q undef, a.tmps.getD r undef])) w) : bodyPost P fn R .ret a w := by
  have hp' : a.tmps[p]?.getD undef = .pointer (some ⟨g, 0, none⟩) := by simpa using hp
  refine bodyPost_ret (v := .tuple #[.agg cs, a.tmps.getD q undef, a.tmps.getD r undef]) ?_ hdef hR
  simp [results, h, hp', asAddr, run_loadVar_row w g t ty cs (0, 0) d hg hu hd hi]

set_option maxHeartbeats 4000000 in
set_option maxRecDepth 100000 in
theorem parse_any (w : World) (hw : BrW w) (a : Option Addr) (n c : Nat) (at' : Int) (l : List Mk) (h : SM w (.slice a n c) l) :
    Calls Tryd.prog 11 #[.slice a n c, .int .i64 at'] w (PaPost w (parseB l at')) := by
  obtain ⟨hl, hn⟩ := h.len
  have b1 := box1 w (.cells zCl TCl)
  have n1 := heap_alloc_new w (.cells zCl TCl)
  have e1 : (w.alloc (.cells zCl TCl)).heap.size = w.heap.size + 1 := by simp
  obtain ⟨w1, hw1⟩ : ∃ w1, w.alloc (.cells zCl TCl) = w1 := ⟨_, rfl⟩
  rw [hw1] at b1 n1 e1
  have b2 := box1 w1 (.cells #[.slice a n c, .int .i64 at'] 80)
  have n2 := heap_alloc_new w1 (.cells #[.slice a n c, .int .i64 at'] 80)
  rw [e1] at n2
  obtain ⟨g4, hg4⟩ : ∃ g4, w.heap.size = g4 := ⟨_, rfl⟩
  obtain ⟨g7, hg7⟩ : ∃ g7, g4 + 1 = g7 := ⟨_, rfl⟩
  have h4 := heap_b b2 n1
  have bel := b1.trans (b2.mono b1.size)
  rw [hg4] at h4 n2
  rw [hg7] at n2
  obtain ⟨w2, hw2⟩ : ∃ w2, w1.alloc (.cells #[.slice a n c, .int .i64 at'] 80) = w2 := ⟨_, rfl⟩
  rw [hw2] at h4 n2 bel
  have H4 := Lib.hid h4
  have H7 := Lib.hid n2
  have HBEL := Lib.hid bel
  have HL := Lib.hid hl
  have HSM := Lib.hid h
  have HW := Lib.hid hw
  have L4 : Hid (w.heap.size ≤ g4) := Lib.hid (by omega)
  have L47 : Hid (g7 ≠ g4) := Lib.hid (by omega)
  have E := Lib.hid (And.intro hw1 (And.intro hw2 (And.intro hg4 hg7)))
  clear h hw hl b1 n1 e1 hw1 b2 n2 hg4 hg7 h4 bel hw2
  go_enter Tryd.func11, Tryd.ntmps11
  go_upto_region 2 with fail
  rw [E.out.1, E.out.2.1, E.out.2.2.1, E.out.2.2.2]
  clear E
  by_cases hneg : at' < 0
  · have hd : decide (at' < 0) = true := decide_eq_true hneg
    have HEQ := Lib.hid (parse_arg l at' (.inl hneg))
    clear hneg
    go_wp2_with (refine wpList_store_row rfl TCl (.tmp 4) (.tmp 22) rfl rfl g4 TCl zCl zCl rfl rfl H4.out rfl infoCl (by decide) ?_)
    exact ret_box3 (p := 4) (q := 5) (r := 6) rfl rfl (setRow_heap _ g4 _ zCl TCl _ H4.out) Tryd.underlying28 rfl infoCl rfl ⟨by rw [HEQ.out]; rfl, below_setRow HBEL.out L4.out _⟩
  · have hd : decide (at' < 0) = false := decide_eq_false hneg
    obtain ⟨op, rfl⟩ : ∃ op : Nat, at' = (op : Int) := ⟨at'.toNat, by omega⟩
    have c0 : w2.cell? ⟨g7, 0, none⟩ = some (.slice a n c) := by rw [cell_of_row _ _ _ _ _ (0, 0) H7.out]; rfl
    have c1 : w2.cell? ⟨g7, 1, none⟩ = some (.int .i64 (op : Int)) := by rw [cell_of_row _ _ _ _ _ (0, 0) H7.out]; rfl
    clear hneg
    go_wp2_with fail
    refine (sign_any w2 a n c op op 91 l (HSM.out.below HBEL.out)).mono ?_
    rintro e w3 ⟨rfl, hb⟩
    have H43 := Lib.hid (heap_b hb H4.out)
    have H73 := Lib.hid (heap_b hb H7.out)
    have HB3 := Lib.hid (HBEL.out.trans (hb.mono HBEL.out.size))
    clear c0 c1 hb H4 H7 HBEL
    cases hs : sgn l op 91 with
    | false =>
      have HEQ := Lib.hid (parse_arg l (op : Int) (.inr (by simpa using hs)))
      clear hs
      go_wp2_with (refine wpList_store_row rfl TCl (.tmp 4) (.tmp 22) rfl rfl g4 TCl zCl zCl rfl rfl H43.out rfl infoCl (by decide) ?_)
      exact ret_box3 (p := 4) (q := 5) (r := 6) rfl rfl (setRow_heap _ g4 _ zCl TCl _ H43.out) Tryd.underlying28 rfl infoCl rfl ⟨by rw [HEQ.out]; rfl, below_setRow HB3.out L4.out _⟩
    | true =>
      have HPB := Lib.hid (parse_br l op hs)
      have hopn : op < n := by have := sgn_lt hs; rw [HL.out] at this; exact this
      have hok := br_okC l op
      have hbd := br_bad l op
      clear hs
      have c0 : w3.cell? ⟨g7, 0, none⟩ = some (.slice a n c) := by rw [cell_of_row _ _ _ _ _ (0, 0) H73.out]; rfl
      have c1 : w3.cell? ⟨g7, 1, none⟩ = some (.int .i64 (op : Int)) := by rw [cell_of_row _ _ _ _ _ (0, 0) H73.out]; rfl
      go_wp2_with fail
      refine (bracket_any w3 (HW.out.below HB3.out) a n c op l (HSM.out.below HB3.out) hopn).mono ?_
      intro e w4 hP
      obtain ⟨rfl, hb⟩ := it_post hP
      have H44 := Lib.hid (heap_b hb H43.out)
      have HB4 := Lib.hid (HB3.out.trans (hb.mono HB3.out.size))
      clear c0 c1 hb hP H43 H73 HB3
      cases hbr : brM l op with
      | bad e p =>
        rw [hbr] at HPB hbd
        clear hok hbr
        have HEQ : Hid (parseB l (op : Int) = (noneL, (p : Int), (e : Int))) := HPB
        rw [itV_bad]
        obtain ⟨w6, g8, g10, f1, f2, f3, h8, h10, hb7, n10⟩ := two_new w4 zCl #[.int .i64 (e : Int), .int .i64 (p : Int)] g4 _ H44.out
        have H4 := Lib.hid (heap_b hb7 H44.out)
        have HB := Lib.hid (HB4.out.trans (hb7.mono HB4.out.size))
        have NE := Lib.hid n10
        have F := Lib.hid (And.intro f1 (And.intro f2 f3))
        have H10 := Lib.hid h10
        clear f1 f2 f3 h8 h10 hb7 n10
        go_upto_region 5 with fail
        rw [F.out.2.2, F.out.2.1, F.out.1]
        clear F H44 HB4
        have d0 : w6.cell? ⟨g10, 0, none⟩ = some (.int .i64 (e : Int)) := by rw [cell_of_row _ _ _ _ _ (0, 0) H10.out]; rfl
        have d1 : w6.cell? ⟨g10, 1, none⟩ = some (.int .i64 (p : Int)) := by rw [cell_of_row _ _ _ _ _ (0, 0) H10.out]; rfl
        have hen : ((e : Int) != 0) = true := by rcases hbd with h | h | h <;> rw [h] <;> rfl
        clear hbd HPB
        go_upto_region 6 with fail
        refine wp_region_held_drew (S := fun w' => w'.cell? ⟨g10, 0, none⟩ = some (.int .i64 (e : Int)) ∧ w'.cell? ⟨g10, 1, none⟩ = some (.int .i64 (p : Int))) (by kernel_rfl) ⟨d0, d1⟩ (fun hHeld => ?_)
        refine wpAnyH_take (i := 0) (v := .agg zCl) rfl (by kernel_rfl) (by kernel_rfl) (by kernel_rfl) (fun _ _ _ h => h) (Or.inl ⟨by rfl, by intro w hSw; (try dsimp only at hSw); go_simp⟩) (by assumption) ?_
        simp only [Act.put, List.getElem_toArray, List.getElem_cons_zero, List.setIfInBounds_toArray, List.set_cons_zero, List.set_cons_succ]
        refine wpAnyH_take (i := 1) (v := .pointer (some ⟨g10, 1, none⟩)) rfl (by kernel_rfl) (by kernel_rfl) (by kernel_rfl) (fun _ _ _ h => h) (Or.inl ⟨by rfl, by intro w hSw; (try dsimp only at hSw); go_simp⟩) (by assumption) ?_
        simp only [Act.put, List.getElem_toArray, List.getElem_cons_zero, List.getElem_cons_succ, List.setIfInBounds_toArray, List.set_cons_zero, List.set_cons_succ]
        refine wpAnyH_take (i := 2) (v := .int .i64 (p : Int)) rfl (by kernel_rfl) (by kernel_rfl) (by kernel_rfl) (fun _ _ _ h => h) (Or.inl ⟨by rfl, by intro w hSw; (try dsimp only at hSw); go_simp⟩) (by assumption) ?_
        simp only [Act.put, List.getElem_toArray, List.getElem_cons_zero, List.getElem_cons_succ, List.setIfInBounds_toArray, List.set_cons_zero, List.set_cons_succ]
        refine wpAnyH_take (i := 3) (v := .pointer (some ⟨g10, 0, none⟩)) rfl (by kernel_rfl) (by kernel_rfl) (by kernel_rfl) (fun _ _ _ h => h) (Or.inl ⟨by rfl, by intro w hSw; (try dsimp only at hSw); go_simp⟩) (by assumption) ?_
        simp only [Act.put, List.getElem_toArray, List.getElem_cons_zero, List.getElem_cons_succ, List.setIfInBounds_toArray, List.set_cons_zero, List.set_cons_succ]
        refine wpAnyH_take (i := 4) (v := .int .i64 (e : Int)) rfl (by kernel_rfl) (by kernel_rfl) (by kernel_rfl) (fun _ _ _ h => h) (Or.inl ⟨by rfl, by intro w hSw; (try dsimp only at hSw); go_simp⟩) (by assumption) ?_
        simp only [Act.put, List.getElem_toArray, List.getElem_cons_zero, List.getElem_cons_succ, List.setIfInBounds_toArray, List.set_cons_zero, List.set_cons_succ]
        refine wpAnyH_ready (rs := [5]) (by kernel_rfl) (by simp) ?_
        refine AllReadyH.cons rfl (fun K hK => ?_) AllReadyH.nil
        refine wp_store_row TCl _ _ rfl g4 zCl rfl rfl TCl zCl H4.out infoCl rfl (by kernel_rfl) ?_
        refine hK.out _ _ ⟨setRow_cell hHeld.1 NE.out, setRow_cell hHeld.2 NE.out⟩ (fun hHeld => ?_)
        clear hK K
        refine wpAnyH_take (i := 6) (v := .int .i64 (p : Int)) rfl (by kernel_rfl) (by kernel_rfl) (by kernel_rfl) (fun _ _ _ h => h) (Or.inl ⟨by rfl, by intro w hSw; (try dsimp only at hSw); go_simp⟩) (by assumption) ?_
        simp only [Act.put, List.getElem_toArray, List.getElem_cons_zero, List.getElem_cons_succ, List.setIfInBounds_toArray, List.set_cons_zero, List.set_cons_succ]
        refine wpAnyH_take (i := 7) (v := .int .i64 (e : Int)) rfl (by kernel_rfl) (by kernel_rfl) (by kernel_rfl) (fun _ _ _ h => h) (Or.inl ⟨by rfl, by intro w hSw; (try dsimp only at hSw); go_simp⟩) (by assumption) ?_
        simp only [Act.put, List.getElem_toArray, List.getElem_cons_zero, List.getElem_cons_succ, List.setIfInBounds_toArray, List.set_cons_zero, List.set_cons_succ]
        refine wpAnyH_done (by kernel_rfl) ?_ _
        go_wp2_with fail
        exact ret_box3 (p := 4) (q := 5) (r := 6) rfl rfl (setRow_heap _ g4 _ zCl TCl _ H4.out) Tryd.underlying28 rfl infoCl rfl ⟨by rw [HEQ.out]; rfl, below_setRow HB.out.drew L4.out _⟩
      | ok s fin v next =>
        obtain ⟨x0, x1, x2, x3, hx⟩ := isC_words s (by rw [hbr] at hok; exact hok)
        subst hx
        rw [hbr] at HPB
        clear hok hbd hbr
        have HEQ : Hid (parseB l (op : Int) = ([x0, x1, x2, x3], (next : Int), 0)) := HPB
        rw [itV_ok]
        obtain ⟨w6, g8, g10, f1, f2, f3, h8, h10, hb7, n10⟩ := two_new w4 #[.int .u64 (x0 : Int), .int .u64 (x1 : Int), .int .u64 (x2 : Int), .int .u64 (x3 : Int)] zFa g4 _ H44.out
        have H4 := Lib.hid (heap_b hb7 H44.out)
        have HB := Lib.hid (HB4.out.trans (hb7.mono HB4.out.size))
        have F := Lib.hid (And.intro f1 (And.intro f2 f3))
        have H10 := Lib.hid h10
        have H8 := Lib.hid h8
        clear f1 f2 f3 h8 h10 hb7 n10
        go_upto_region 5 with fail
        rw [F.out.2.2, F.out.2.1, F.out.1]
        clear F H44 HB4 HPB
        have d0 : w6.cell? ⟨g10, 0, none⟩ = some (.int .i64 0) := by rw [cell_of_row _ _ _ _ _ (0, 0) H10.out]; rfl
        have v0 : w6.cell? ⟨g8, 0, none⟩ = some (.int .u64 (x0 : Int)) := by rw [cell_of_row _ _ _ _ _ (0, 0) H8.out]; rfl
        have v1 : w6.cell? ⟨g8, 1, none⟩ = some (.int .u64 (x1 : Int)) := by rw [cell_of_row _ _ _ _ _ (0, 0) H8.out]; rfl
        have v2 : w6.cell? ⟨g8, 2, none⟩ = some (.int .u64 (x2 : Int)) := by rw [cell_of_row _ _ _ _ _ (0, 0) H8.out]; rfl
        have v3 : w6.cell? ⟨g8, 3, none⟩ = some (.int .u64 (x3 : Int)) := by rw [cell_of_row _ _ _ _ _ (0, 0) H8.out]; rfl
        go_wp2_with (refine wpList_store_row rfl TCl (.tmp 4) (.tmp 37) rfl rfl g4 TCl zCl #[.int .u64 (x0 : Int), .int .u64 (x1 : Int), .int .u64 (x2 : Int), .int .u64 (x3 : Int)] rfl rfl H4.out rfl infoCl (by simp [Value.oneCell']) ?_)
        exact ret_box3 (p := 4) (q := 5) (r := 6) rfl rfl (setRow_heap _ g4 _ #[.int .u64 (x0 : Int), .int .u64 (x1 : Int), .int .u64 (x2 : Int), .int .u64 (x3 : Int)] TCl _ H4.out) Tryd.underlying28 rfl infoCl rfl ⟨by rw [HEQ.out]; rfl, below_setRow HB.out L4.out _⟩
end Go.Proofs.YthegepiafodpjaaDoor
