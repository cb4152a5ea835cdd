/-
  fill.Parse's closure: what has been read goes out.
-/
import Derived.Test.YtdbkoephkdfbfaaDoorOwnP
import Derived.Test.YtdbkoephkdfbfaaDoorFillM2
import Derived.OneCell
import Derived.Deep.DeepCutAuto
namespace Go.Proofs.YtdbkoephkdfbfaaDoor
open Go.RowKit

/-- What Parse holds between two marks: the pieces in a variable, the text in another. -/
def St (w : World) (base go gt : Nat) (L : List PcV) (text : List Int) : Prop :=
  ∃ vo vt, w.heap[go]? = some (.cells #[vo] 75 (0, 0)) ∧ w.heap[gt]? = some (.cells #[vt] 48 (0, 0)) ∧ OwnPs w base vo L ∧ OwnB w base vt text ∧ Apart vt vo ∧ (∀ x ∈ L, Apart vt x.2.1) ∧ go < base ∧ gt < base ∧ go ≠ gt ∧ base ≤ w.heap.size

theorem St.below {w w' : World} {base go gt : Nat} {L : List PcV} {text : List Int} (h : St w base go gt L text) (hb : Below w.heap.size w w') : St w' base go gt L text := by
  obtain ⟨vo, vt, h1, h2, h3, h4, h5, h6, h7, h8, h9, h10⟩ := h
  exact ⟨vo, vt, by rw [hb.block go (by omega)]; exact h1, by rw [hb.block gt (by omega)]; exact h2, h3.below hb, h4.below hb, h5, h6, h7, h8, h9, by have := hb.size; omega⟩

/-- Behind a call: all that lies below is as it was. -/
def Kept (w w' : World) (go gt base : Nat) : Prop := ∀ B a, Below B a w → B ≤ go → B ≤ gt → B ≤ base → Below B a w'
def groupOf (n : Int) : List Pc := if 0 ≤ n then [(n, [])] else []
def GroupPost (w : World) (base go gt : Nat) (L : List PcV) (text : List Int) (n : Int) (e : Ending) (w' : World) : Prop :=
  e = .returned (.tuple #[]) ∧ ∃ L', St w' base go gt L' [] ∧ plainP L' = flushL (plainP L) text ++ groupOf n ∧ Kept w w' go gt base ∧ w.heap.size ≤ w'.heap.size ∧ L'.length ≤ L.length + 2 ∧ (∀ x ∈ L', x ∈ L ∨ x.2.2 = text ∨ x.2.2 = [])

theorem below_set {B : Nat} {a w : World} (h : Below B a w) {p : Addr} (hp : B ≤ p.block) (v : Value) : Below B a (w.setCell p v) := h.setCell hp v

theorem app_block {w w' : World} {base base0 : Nat} {v v' : Value} {e : TypeId} {n m : Nat} {xs : List Value} (hA : AppPost w w' base v v') (hown : w.ownsRow base0 e n v m xs) {k : Nat} (hk : k < base0) (hb : base0 ≤ w.heap.size) : w'.heap[k]? = w.heap[k]? :=
  hA.block k (by omega) (fun h => by have := (World.ownsRow.lt hown k h).1; omega)
theorem kept_app {w w' : World} {base go gt : Nat} {v v' : Value} (hA : AppPost w w' base v v') : Kept w w' go gt base := fun _ _ h _ _ h3 => hA.bel _ _ h h3
theorem kept_set {w : World} {base go gt : Nat} (p : Addr) (hp : p.block = go ∨ p.block = gt) (v : Value) : Kept w (w.setCell p v) go gt base := fun _ _ h h1 h2 _ => h.setCell (by omega) v
theorem kept_trans {w w1 w2 : World} {base go gt : Nat} (h1 : Kept w w1 go gt base) (h2 : Kept w1 w2 go gt base) : Kept w w2 go gt base := fun B a h a1 a2 a3 => h2 B a (h1 B a h a1 a2 a3) a1 a2 a3
theorem kept_refl (w : World) (go gt base : Nat) : Kept w w go gt base := fun _ _ h _ _ _ => h
theorem setCell_size (w : World) (p : Addr) (v : Value) : (w.setCell p v).heap.size = w.heap.size := by simp [World.setCell]

/-- A piece goes out. -/
theorem st_push {w w' : World} {base go gt : Nat} {L : List PcV} {vo vt vo' vx : Value} {g : Int} {tx : List Int} (h1 : w.heap[go]? = some (.cells #[vo] 75 (0, 0))) (h2 : w.heap[gt]? = some (.cells #[vt] 48 (0, 0)))
    (h3 : OwnPs w base vo L) (h7 : go < base) (h8 : gt < base) (h10 : base ≤ w.heap.size) (hA : AppPost w w' base vo vo') (hown : w'.ownsRow base 122 2 vo' (L.length + 1) (cellsP L ++ [.int .i64 g, vx]))
    (hx : OwnB w base vx tx) (hv : Apart vo vx) (hL : ∀ x ∈ L, Apart vx x.2.1) :
    w'.heap[go]? = some (.cells #[vo] 75 (0, 0)) ∧ w'.heap[gt]? = some (.cells #[vt] 48 (0, 0)) ∧ OwnPs w' base vo' (L ++ [(g, vx, tx)]) :=
  ⟨by rw [app_block hA h3.own h7 h10]; exact h1, by rw [app_block hA h3.own h8 h10]; exact h2, h3.push hA hown hx hv hL⟩

def FlushRel (w : World) (base go gt : Nat) (L : List PcV) (text : List Int) (w' : World) : Prop :=
  ∃ L', St w' base go gt L' [] ∧ plainP L' = flushL (plainP L) text ∧ Kept w w' go gt base ∧ w.heap.size ≤ w'.heap.size ∧ L'.length ≤ L.length + 1 ∧ (∀ x ∈ L', x ∈ L ∨ x.2.2 = text ∨ x.2.2 = [])

set_option maxHeartbeats 2000000 in
set_option maxRecDepth 100000 in
theorem group_any (w : World) (base go gt : Nat) (L : List PcV) (text : List Int) (h : St w base go gt L text) (hL : L.length ≤ 4294967296) (n : Int) (hn0 : -1 ≤ n) (hn1 : n ≤ 9) (htl : text.length ≤ 140737488351232) :
    Calls Tryd.prog 92 #[.int .i8 n, .pointer (some ⟨gt, 0, none⟩), .pointer (some ⟨go, 0, none⟩)] w (GroupPost w base go gt L text n) := by
  obtain ⟨i0, hi, hz0, hz1, hz2⟩ := info_parts infoP
  obtain ⟨vo, vt, h1, h2, h3, h4, h5, h6, h7, h8, h9, h10⟩ := id h
  have c1 := cell_of_one h1
  have c2 := cell_of_one h2
  have f1 := free_of_one h1
  have f2 := free_of_one h2
  obtain ⟨ab, cb, rfl⟩ := h4.shape
  have HST := Lib.hid h
  have H1 := Lib.hid h1
  have H2 := Lib.hid h2
  have H6 := Lib.hid h6
  have hw : IntKind.i64.wrap n = n := IntWalk.i64_in _ (by omega)
  clear h h1 h2 h6
  go_enter Tryd.func92, Tryd.ntmps92
  go_upto_if 6 with fail
  go_cut [] (fun wx => FlushRel w base go gt L text wx)
  case first =>
    by_cases ht : text = []
    · subst ht
      go_wp2_with fail
      go_meet
      case rel => exact ⟨L, HST.out, by simp [flushL], kept_refl _ _ _ _, Nat.le_refl _, Nat.le_succ _, fun x hx => .inl hx⟩
    · have HT := Lib.hid ht
      have hpos : 0 < text.length := List.length_pos_iff.2 ht
      clear ht
      go_wp2_with (at_builtin; refine append_new rfl (.tmp 7) (.tmp 10) 75 122 i0 (.agg #[.int .i64 0, .slice none 0 0]) 2 32 rfl Tryd.underlying75 hi hz0 hz1 hz2 rfl (by decide) base _ L.length (cellsP L) rfl h3.own 1 [.int .i64 (-1), .slice ab text.length cb] _ rfl rfl ?a1 rfl ?a2 ?a3 h10 ?_)
      case a1 => intro u hu; simp at hu; rcases hu with rfl | rfl <;> rfl
      case a2 => unfold maxLen; omega
      case a3 => omega
      intro v' w1 hown _ hA
      obtain ⟨g1, g2, g3⟩ := st_push (g := -1) H1.out H2.out h3 h7 h8 h10 hA hown h4 h5.symm H6.out
      have k1 : Kept w w1 go gt base := kept_app hA
      have hs1 := hA.size
      have d1 := free_of_one g1
      have d2 := free_of_one g2
      obtain ⟨av, cv, rfl⟩ := own_shape hown
      have b1 := cell_of_one g1
      have b2 := cell_of_one (show (w1.setCell ⟨go, 0, none⟩ (.slice av (L.length + 1) cv)).heap[gt]? = _ by rw [heap_setCell_other _ _ _ _ (by first | exact h9 | exact fun e => h9 e.symm)]; exact g2)
      have e1 : (w1.setCell ⟨go, 0, none⟩ (.slice av (L.length + 1) cv)).frozen? ⟨gt, 0, none⟩ = false := by rw [World.frozen?_setCell]; exact d2
      have G1 := Lib.hid g1
      have G2 := Lib.hid g2
      have G3 := Lib.hid g3
      clear g1 g2 g3 hown hA c1 c2
      go_wp2_with fail
      go_meet
      case rel =>
        refine ⟨L ++ [(-1, .slice ab text.length cb, text)], ⟨.slice av (L.length + 1) cv, .slice none 0 0, ?_, ?_, ?_, OwnB.nil _ _, apart_none rfl, fun _ _ => apart_none rfl, h7, h8, h9, ?_⟩, ?_, ?_, ?_, ?_, ?_⟩
        · rw [heap_setCell_other _ _ _ _ (by first | exact h9 | exact fun e => h9 e.symm)]
          exact one_setCell G1.out
        · exact one_setCell (by rw [heap_setCell_other _ _ _ _ (by first | exact h9 | exact fun e => h9 e.symm)]; exact G2.out)
        · exact (G3.out.setBelow (a := ⟨go, 0, none⟩) h7 _).setBelow (a := ⟨gt, 0, none⟩) h8 _
        · simp only [setCell_size]; omega
        · rw [plainP_append]; unfold flushL; rw [if_neg HT.out]; rfl
        · exact kept_trans k1 (kept_trans (kept_set _ (.inl rfl) _) (kept_set _ (.inr rfl) _))
        · simp only [setCell_size]; omega
        · simp
        · intro x hx
          rcases List.mem_append.1 hx with hx | hx
          · exact .inl hx
          · simp only [List.mem_singleton] at hx; subst hx; exact .inr (.inl rfl)
  case rest =>
    obtain ⟨L1, hS1, hp1, hk1, hz1', hl1, hm1⟩ := hcut
    have HP1 := Lib.hid hp1
    have HK1 := Lib.hid hk1
    have HM1 := Lib.hid hm1
    have HS1 := Lib.hid hS1
    clear hp1 hk1 hm1 c1 c2 f1 f2 H1 H2 H6 HST h3 h4 h5
    by_cases hn : 0 ≤ n
    · obtain ⟨vo1, vt1, h1, h2, h3, h4, h5, h6, -, -, -, h10'⟩ := hS1
      have c1 := cell_of_one h1
      have c2 := cell_of_one h2
      have f1 := free_of_one h1
      have H1 := Lib.hid h1
      have H2 := Lib.hid h2
      have H6 := Lib.hid h6
      clear h1 h2 h6
      go_wp2_with (at_builtin; refine append_new rfl (.tmp 14) (.tmp 18) 75 122 i0 (.agg #[.int .i64 0, .slice none 0 0]) 2 32 rfl Tryd.underlying75 hi hz0 hz1 hz2 rfl (by decide) base _ L1.length (cellsP L1) rfl h3.own 1 [.int .i64 n, .slice none 0 0] _ rfl rfl ?b1 rfl ?b2 ?b3 h10' ?_)
      case b1 => intro u hu; simp at hu; rcases hu with rfl | rfl <;> rfl
      case b2 => unfold maxLen; omega
      case b3 => omega
      intro v' w1 hown _ hA
      obtain ⟨g1, g2, g3⟩ := st_push (g := n) (tx := []) H1.out H2.out h3 h7 h8 h10' hA hown (OwnB.nil _ _) (fun k _ h => by cases h) (fun _ _ => apart_none rfl)
      have k1 : Kept wc w1 go gt base := kept_app hA
      have hs1 := hA.size
      have d1 := free_of_one g1
      obtain ⟨g4, g5⟩ := hA.other _ _ _ _ _ _ h4 h5.symm
      have g6 : ∀ x ∈ L1, Apart vt1 x.2.1 := H6.out
      obtain ⟨av, cv, rfl⟩ := own_shape hown
      have b1 := cell_of_one g1
      have G1 := Lib.hid g1
      have G2 := Lib.hid g2
      have G3 := Lib.hid g3
      have G6 := Lib.hid g6
      clear g1 g2 g3 g6 hown hA c1 c2 f1
      go_wp2_with fail
      go_end0
      refine ⟨rfl, L1 ++ [(n, .slice none 0 0, [])], ⟨_, vt1, one_setCell G1.out, ?_, G3.out.setBelow (a := ⟨go, 0, none⟩) h7 _, OwnB.setBelow (a := ⟨go, 0, none⟩) g4 h7 _, ?_, ?_, h7, h8, h9, ?_⟩, ?_, ?_, ?_, ?_, ?_⟩
      · rw [heap_setCell_other _ _ _ _ (by first | exact h9 | exact fun e => h9 e.symm)]; exact G2.out
      · exact g5.symm
      · intro x hx
        rcases List.mem_append.1 hx with hx | hx
        · exact G6.out x hx
        · simp only [List.mem_singleton] at hx; subst hx; exact fun k _ h => by cases h
      · simp only [setCell_size]; omega
      · rw [plainP_append, HP1.out]; unfold groupOf; rw [if_pos hn]; rfl
      · exact kept_trans HK1.out (kept_trans k1 (kept_set _ (.inl rfl) _))
      · simp only [setCell_size]; omega
      · rw [List.length_append]; simp; omega
      · intro x hx
        rcases List.mem_append.1 hx with hx | hx
        · exact HM1.out x hx
        · simp only [List.mem_singleton] at hx; subst hx; exact .inr (.inr rfl)
    · have hni : n < 0 := by omega
      go_wp2_with fail
      go_end0
      exact ⟨rfl, L1, HS1.out, by rw [HP1.out]; unfold groupOf; rw [if_neg (by omega), List.append_nil], HK1.out, hz1', by omega, HM1.out⟩
end Go.Proofs.YtdbkoephkdfbfaaDoor
