/-
  TableApplies: every Apply, Then and Print of two tables.
-/
import Derived.Test.YtakimaceohfpcaaDoorRefTab
import Derived.Test.YtakimaceohfpcaaDoorLives15
import Derived.Test.YtakimaceohfpcaaDoorLong
import Derived.Test.YtakimaceohfpcaaDoorWide
import Derived.Test.YtakimaceohfpcaaDoorCopy
import Derived.Test.YtakimaceohfpcaaDoorOwnF
namespace Go.Proofs.YtakimaceohfpcaaDoor
open Go.RowKit

/-- The two tables, their copies, and the list that is handed in. -/
structure TA (W w : World) (B g3 g4 g8 g9 gi : Nat) (t u x y b : List Int) : Prop where
  bel : Below W.heap.size W w
  le : W.heap.size ≤ g3 ∧ W.heap.size ≤ g4 ∧ W.heap.size ≤ g8 ∧ W.heap.size ≤ g9 ∧ W.heap.size ≤ gi
  lt : g3 < B ∧ g4 < B ∧ g8 < B ∧ g9 < B ∧ gi < B ∧ B ≤ w.heap.size
  t3 : Arr w g3 73 t
  t4 : Arr w g4 73 u
  t8 : Arr w g8 73 x
  t9 : Arr w g9 73 y
  i : Arr w gi 5 (wide b)
theorem TA.below {W w w' : World} {B g3 g4 g8 g9 gi : Nat} {t u x y b : List Int} (h : TA W w B g3 g4 g8 g9 gi t u x y b) (hb : Below w.heap.size w w') : TA W w' B g3 g4 g8 g9 gi t u x y b :=
  { h with bel := h.bel.trans (hb.mono h.bel.size), lt := by have := h.lt; have := hb.size; omega, t3 := h.t3.below hb h.t3.lt, t4 := h.t4.below hb h.t4.lt, t8 := h.t8.below hb h.t8.lt, t9 := h.t9.below hb h.t9.lt, i := h.i.below hb h.i.lt }
theorem TA.own {W w : World} {B g3 g4 g8 g9 gi : Nat} {t u x y b : List Int} (h : TA W w B g3 g4 g8 g9 gi t u x y b) : W.heap.size ≤ B := by have := h.le; have := h.lt; omega

theorem applyO (w : World) (g : Nat) (T : TypeId) (t b : List Int) (vb : Value) (ht : Arr w g T t) (htl : t.length = 256) (hb : SB w vb b) : Calls Tryd.prog 31 #[.pointer (some ⟨g, 0, none⟩), vb] w (TwinPost w (app t b)) := by
  have hl := hb
  obtain ⟨-, _, _, -, hl, -⟩ := hl
  refine (apply_any w g T t b vb ht htl hb).mono fun e w' ⟨he, hA, hbel⟩ => ⟨_, he, ?_, hbel⟩
  have := hA.own (base := w.heap.size) (n := b.length) (Nat.le_refl _) (by rw [app_len]) (by unfold maxLen; omega) (Nat.le_refl _)
  rwa [List.take_of_length_le (by rw [app_len]; omega)] at this
/-- All that lies there. -/
structure TO (W w : World) (B g3 g4 g8 g9 gi gb : Nat) (t u x y b z : List Int) (n : Nat) (vs : Nat → Value) (ls : Nat → List Int) : Prop where
  ta : TA W w B g3 g4 g8 g9 gi t u x y b
  of : OF w B n vs ls
  z : Arr w gb 73 z
theorem TO.below {W w w' : World} {B g3 g4 g8 g9 gi gb : Nat} {t u x y b z : List Int} {n : Nat} {vs : Nat → Value} {ls : Nat → List Int} (h : TO W w B g3 g4 g8 g9 gi gb t u x y b z n vs ls) (hb : Below w.heap.size w w') : TO W w' B g3 g4 g8 g9 gi gb t u x y b z n vs ls :=
  ⟨h.ta.below hb, h.of.below hb, h.z.below hb h.z.lt⟩

theorem own_notT {w : World} {base g : Nat} {v : Value} {l : List Int} {x : List Int} (ho : OwnB w base v l) (hg : Arr w g 73 x) : v.ownBlock ≠ some g := by
  intro e
  obtain ⟨cap, cur, he⟩ : ∃ (cap : Nat) (cur : Array Value), w.heap[g]? = some (.cells cur 5 (0, 0)) := by
    rcases ho.2 with ⟨rfl, _⟩ | ⟨k, cap, cur, rfl, _, hk, _⟩
    · simp [Value.ownBlock] at e
    · simp only [Value.ownBlock, Option.some.injEq] at e
      subst e
      exact ⟨cap, cur, hk⟩
  have hg : w.heap[g]? = some (.cells (row x) 73 (0, 0)) := hg
  rw [hg] at he
  simp at he
/-- The second half: a table that is written over, and all the lists. -/
structure TB (W w : World) (g8 : Nat) (x : List Int) (n : Nat) (vs : Nat → Value) (ls : Nat → List Int) : Prop where
  bel : Below W.heap.size W w
  le : W.heap.size ≤ g8
  t8 : Arr w g8 73 x
  ok : x.length = 256 ∧ IsB x
  of : OF w W.heap.size n vs ls
section
variable {W w w' : World} {g8 : Nat} {x : List Int} {n : Nat} {vs : Nat → Value} {ls : Nat → List Int}
theorem TB.below (h : TB W w g8 x n vs ls) (hb : Below w.heap.size w w') : TB W w' g8 x n vs ls :=
  { h with bel := h.bel.trans (hb.mono h.bel.size), t8 := h.t8.below hb h.t8.lt, of := h.of.below hb }
theorem TB.store (h : TB W w g8 x n vs ls) (j : Nat) (hj : j < n) {g len cap : Nat} (hv : vs j = .slice (some ⟨g, 0, none⟩) len cap) (i : Nat) (y : Int) (h0 : 0 ≤ y) (h1 : y ≤ 255) : TB W (w.setCell ⟨g, i, none⟩ (.int .u8 y)) g8 x n vs (setF ls j i y) :=
  { h with bel := h.bel.setCell (by show W.heap.size ≤ g; exact (h.of.lt hj g (by rw [hv]; rfl)).1) _, t8 := h.t8.other _ (fun e => own_notT (h.of.own j hj) h.t8 (by rw [hv, e]; rfl)) _, of := h.of.store j hj hv i y h0 h1 }
theorem TB.set (h : TB W w g8 x n vs ls) (i : Nat) (y : Int) (h0 : 0 ≤ y) (h1 : y ≤ 255) : TB W (w.setCell ⟨g8, i, none⟩ (.int .u8 y)) g8 (x.set i y) n vs ls :=
  { h with bel := h.bel.setCell h.le _, t8 := h.t8.set i y, ok := ⟨by rw [List.length_set]; exact h.ok.1, isB_set h.ok.2 i y h0 h1⟩, of := h.of.other (fun j hj => own_notT (h.of.own j hj) h.t8) i _ }
theorem TB.fresh (h : TB W w g8 x n vs ls) {v : Value} {l : List Int} (ho : OwnB w' w.heap.size v l) (hb : Below w.heap.size w w') (hok : IsB l ∧ l.length ≤ 140737488351232) : TB W w' g8 x (n + 1) (snoc vs n v) (snoc ls n l) :=
  { h.below hb with of := h.of.fresh h.bel.size ho hb hok }
/-- A list that is written over, place by place. -/
structure OW (W w : World) (g8 : Nat) (x : List Int) (n : Nat) (vs : Nat → Value) (ls0 ls : Nat → List Int) (j : Nat) : Prop where
  tb : TB W w g8 x n vs ls
  others : ∀ k, k ≠ j → ls k = ls0 k
  len : (ls j).length = (ls0 j).length
theorem OW.start (h : TB W w g8 x n vs ls) (j : Nat) : OW W w g8 x n vs ls ls j := ⟨h, fun _ _ => rfl, rfl⟩
theorem OW.store {ls0 : Nat → List Int} {j : Nat} (h : OW W w g8 x n vs ls0 ls j) (hj : j < n) {g len cap : Nat} (hv : vs j = .slice (some ⟨g, 0, none⟩) len cap) (i : Nat) (y : Int) (h0 : 0 ≤ y) (h1 : y ≤ 255) : OW W (w.setCell ⟨g, i, none⟩ (.int .u8 y)) g8 x n vs ls0 (setF ls j i y) j :=
  ⟨h.tb.store j hj hv i y h0 h1, fun k hk => by unfold setF; rw [if_neg hk]; exact h.others k hk, by unfold setF; rw [if_pos rfl, List.length_set]; exact h.len⟩
end

set_option maxHeartbeats 4000000 in
set_option maxRecDepth 100000 in
theorem applies_walk (W : World) (t u : List Int) (htl : t.length = 256) (hT : IsB t) (hul : u.length = 256) (hU : IsB u) (a : Option Addr) (n c : Nat) (b : List Int) (sb : SB W (.slice a n c) b) :
    Calls Tryd.prog 4 #[.agg (row t), .agg (row u), .slice a n c] W fun e w' => e = .returned (.bool true) ∧ Below W.heap.size W w' := by
  obtain ⟨hl, hn⟩ := sb.len
  subst hl
  have ST := Lib.hid sb
  have HTL := Lib.hid (And.intro htl hT)
  have HUL := Lib.hid (And.intro hul hU)
  have hz := zeroT
  have ab : Below W.heap.size W ((W.alloc (.cells (row t) 73)).alloc (.cells (row u) 73)) := ((Below.refl _ W).alloc (Nat.le_refl _) _).alloc (by simp) _
  have a0 : Arr ((W.alloc (.cells (row t) 73)).alloc (.cells (row u) 73)) W.heap.size 73 t := (Arr.new _ _ _).alloc _
  have a1 : Arr ((W.alloc (.cells (row t) 73)).alloc (.cells (row u) 73)) (W.heap.size + 1) 73 u := by
    have := Arr.new (W.alloc (.cells (row t) 73)) 73 u
    rwa [World.size_alloc] at this
  clear sb htl hT hul hU
  go_enter Tryd.func4, Tryd.ntmps4
  go_upto_region 1 with fail
  generalize (W.alloc (.cells (row t) 73)).alloc (.cells (row u) 73) = w1 at ab a0 a1 ⊢
  obtain ⟨g3, hg3⟩ : ∃ g3, W.heap.size = g3 := ⟨_, rfl⟩
  rw [hg3] at a0 a1 ⊢
  obtain ⟨g4, hg4⟩ : ∃ g4, g3 + 1 = g4 := ⟨_, rfl⟩
  rw [hg4] at a1 ⊢
  have HG := Lib.hid (And.intro hg3 hg4)
  have HA := Lib.hid (And.intro a0 (And.intro a1 ab))
  clear a0 a1 ab hg3 hg4
  have HL := Lib.hid (long_any w1 b.length (by omega))
  go_wp2_with fail
  refine HL.out.mono ?_
  rintro e w' ⟨rfl, rfl⟩
  clear HL
  by_cases hbig : 2147483647 < b.length
  · have hd : decide (2147483647 < b.length) = true := by simp; omega
    rw [hd]
    go_wp2_with fail
    go_ret
    exact ⟨rfl, HA.out.2.2⟩
  · have hd : decide (2147483647 < b.length) = false := by simp; omega
    rw [hd]
    clear hd
    have HL := Lib.hid (lives_any w1)
    go_wp2_with fail
    refine HL.out.mono ?_
    rintro e w2 ⟨rfl, hb2⟩
    have HA := Lib.hid (And.intro (HA.out.1.below hb2 HA.out.1.lt) (And.intro (HA.out.2.1.below hb2 HA.out.2.1.lt) (HA.out.2.2.trans (hb2.mono HA.out.2.2.size))))
    clear HL hb2
    have hi3 : (Tryd.prog.info? 73).map (·.size) = some (row t).size := by rw [row_size, HTL.out.1]; exact infoT
    have hi4 : (Tryd.prog.info? 73).map (·.size) = some (row u).size := by rw [row_size, HUL.out.1]; exact infoT
    have hs3 : (row zrow).size = (row t).size := by rw [row_size, row_size, HTL.out.1]; rfl
    have hs4 : (row zrow).size = (row u).size := by rw [row_size, row_size, HUL.out.1]; rfl
    have n8 : Arr ((w2.alloc (.cells (row zrow) 73)).alloc (.cells (row zrow) 73)) w2.heap.size 73 zrow := (Arr.new _ _ _).alloc _
    have n9 : Arr (((w2.alloc (.cells (row zrow) 73)).alloc (.cells (row zrow) 73)).setRow w2.heap.size (row t)) (w2.heap.size + 1) 73 zrow := by
      have := Arr.new (w2.alloc (.cells (row zrow) 73)) 73 zrow
      rw [World.size_alloc] at this
      exact this.setRow_other _ (by omega)
    have HI := Lib.hid (And.intro hi3 (And.intro hi4 (And.intro hs3 hs4)))
    have H3 := HA.out.1
    have H4 := HA.out.2.1
    have N8 := Lib.hid n8
    have N9 := Lib.hid n9
    clear hi3 hi4 hs3 hs4 n8 n9
    go_upto_region 5 with (first | (refine wpList_load_row rfl 73 _ rfl g3 rfl 73 _ (0, 0) _ H3 Tryd.underlying73 rfl HI.out.1 ?_) | (refine wpList_load_row rfl 73 _ rfl g4 rfl 73 _ (0, 0) _ H4 Tryd.underlying73 rfl HI.out.2.1 ?_) | (refine wpList_store_row rfl 73 _ _ rfl rfl w2.heap.size 73 _ _ rfl rfl N8.out HI.out.2.2.1 HI.out.1 (row_one _) ?_) | (refine wpList_store_row rfl 73 _ _ rfl rfl (w2.heap.size + 1) 73 _ _ rfl rfl N9.out HI.out.2.2.2 HI.out.2.1 (row_one _) ?_))
    have s8 : Arr ((((w2.alloc (.cells (row zrow) 73)).alloc (.cells (row zrow) 73)).setRow w2.heap.size (row t)).setRow (w2.heap.size + 1) (row u)) w2.heap.size 73 t := N8.out.setRow.setRow_other _ (by omega)
    have s9 : Arr ((((w2.alloc (.cells (row zrow) 73)).alloc (.cells (row zrow) 73)).setRow w2.heap.size (row t)).setRow (w2.heap.size + 1) (row u)) (w2.heap.size + 1) 73 u := N9.out.setRow
    have hb3 : Below w2.heap.size w2 ((((w2.alloc (.cells (row zrow) 73)).alloc (.cells (row zrow) 73)).setRow w2.heap.size (row t)).setRow (w2.heap.size + 1) (row u)) := below_setRow (below_setRow (((Below.refl _ w2).alloc (Nat.le_refl _) _).alloc (by simp) _) (Nat.le_refl _) _) (by omega) _
    generalize (((w2.alloc (.cells (row zrow) 73)).alloc (.cells (row zrow) 73)).setRow w2.heap.size (row t)).setRow (w2.heap.size + 1) (row u) = w3 at s8 s9 hb3 ⊢
    obtain ⟨g8, hg8⟩ : ∃ g8, w2.heap.size = g8 := ⟨_, rfl⟩
    rw [hg8] at s8 s9 ⊢
    obtain ⟨g9, hg9⟩ : ∃ g9, g8 + 1 = g9 := ⟨_, rfl⟩
    rw [hg9] at s9 ⊢
    have HG := Lib.hid (And.intro HG.out (And.intro hg8 hg9))
    have r3 := H3.below hb3 H3.lt
    have r4 := H4.below hb3 H4.lt
    have rb := HA.out.2.2.trans (hb3.mono HA.out.2.2.size)
    have hsz := HA.out.2.2.size
    have HW := Lib.hid (wide_any w3 _ b (ST.out.below rb) (by omega))
    have HH := Lib.hid (And.intro r3 (And.intro r4 (And.intro s8 (And.intro s9 rb))))
    clear s8 s9 hb3 hg8 hg9 r3 r4 rb H3 H4 N8 N9 HA
    have HSZ := Lib.hid hsz
    clear hsz
    go_wp2_with fail
    refine HW.out.mono ?_
    rintro e w4 ⟨rfl, hI, hb4⟩
    obtain ⟨gi, hgi⟩ : ∃ gi, w3.heap.size = gi := ⟨_, rfl⟩
    rw [hgi] at hI ⊢
    have hA4 : TA W w4 w4.heap.size g3 g4 g8 g9 gi t u t u b := by
      obtain ⟨h1, h2, h3, h4, h5⟩ := HH.out
      obtain ⟨⟨e1, e2⟩, e3, e4⟩ := HG.out
      have l1 := h1.lt; have l2 := h2.lt; have l3 := h3.lt; have l4 := h4.lt
      have l5 := hb4.size; have l6 := hI.lt; have l7 := HSZ.out
      exact ⟨h5.trans (hb4.mono h5.size), by omega, by omega, h1.below hb4 l1, h2.below hb4 l2, h3.below hb4 l3, h4.below hb4 l4, hI⟩
    have HA := Lib.hid hA4
    obtain ⟨B, hB⟩ : ∃ B, w4.heap.size = B := ⟨_, rfl⟩
    have HBB : Hid (B = w4.heap.size) := Lib.hid hB.symm
    rw [hB] at HA
    clear hA4 hI hb4 hgi HW HH HSZ hB
    have HO : Hid (OF w4 B 0 (fun _ => undef) (fun _ => [])) := Lib.hid (OF.nil _ _ _ _)
    have HX := Lib.hid (rapply_any w4 g3 _ t b a b.length c HA.out.t3 HTL.out.1 (ST.out.below HA.out.bel))
    go_wp2_with fail
    refine HX.out.mono ?_
    rintro e w5 ⟨v0, rfl, ho, hb5⟩
    have hok : IsB (app t b) ∧ (app t b).length ≤ 140737488351232 := ⟨app_isB t b HTL.out.2, by rw [app_len]; exact hn⟩
    have HO := Lib.hid (HO.out.fresh HA.out.lt.2.2.2.2.2 ho hb5 hok)
    have HA := Lib.hid (HA.out.below hb5)
    obtain ⟨a0, c0, rfl⟩ := ho.shape
    rw [app_len]
    rw [app_len] at HO
    clear ho hb5 hok HX
    have HX := Lib.hid (applyO w5 g8 _ t _ _ HA.out.t8 HTL.out.1 (Arr.wide_sb HA.out.i ST.out.1 hn (b.length + 64)))
    go_wp2_with fail
    refine HX.out.mono ?_
    rintro e w6 ⟨v, rfl, ho, hb5⟩
    have hok : IsB (app t b) ∧ (app t b).length ≤ 140737488351232 := ⟨app_isB t b HTL.out.2, by rw [app_len]; exact hn⟩
    have HO := Lib.hid (HO.out.fresh HA.out.lt.2.2.2.2.2 ho hb5 hok)
    have HA := Lib.hid (HA.out.below hb5)
    obtain ⟨a1, c1, rfl⟩ := ho.shape
    rw [app_len]
    rw [app_len] at HO
    clear ho hb5 hok HX
    have HX := Lib.hid (applyO w6 g8 _ t _ _ HA.out.t8 HTL.out.1 (Arr.wide_sb HA.out.i ST.out.1 hn (b.length + 64)))
    go_wp2_with fail
    refine HX.out.mono ?_
    rintro e w7 ⟨v, rfl, ho, hb5⟩
    have hok : IsB (app t b) ∧ (app t b).length ≤ 140737488351232 := ⟨app_isB t b HTL.out.2, by rw [app_len]; exact hn⟩
    have HO := Lib.hid (HO.out.fresh HA.out.lt.2.2.2.2.2 ho hb5 hok)
    have HA := Lib.hid (HA.out.below hb5)
    obtain ⟨a2, c2, rfl⟩ := ho.shape
    rw [app_len]
    rw [app_len] at HO
    clear ho hb5 hok HX
    have HX := Lib.hid (applyO w7 g9 _ u _ _ HA.out.t9 HUL.out.1 (Arr.wide_sb HA.out.i ST.out.1 hn (b.length + 64)))
    go_wp2_with fail
    refine HX.out.mono ?_
    rintro e w8 ⟨v, rfl, ho, hb5⟩
    have hok : IsB (app u b) ∧ (app u b).length ≤ 140737488351232 := ⟨app_isB u b HUL.out.2, by rw [app_len]; exact hn⟩
    have HO := Lib.hid (HO.out.fresh HA.out.lt.2.2.2.2.2 ho hb5 hok)
    have HA := Lib.hid (HA.out.below hb5)
    obtain ⟨a3, c3, rfl⟩ := ho.shape
    rw [app_len]
    rw [app_len] at HO
    clear ho hb5 hok HX
    have HX := Lib.hid (then_any w8 g8 g9 _ _ t u HA.out.t8 HA.out.t9 HTL.out.1 HUL.out.1 HTL.out.2)
    go_wp2_with fail
    refine HX.out.mono ?_
    rintro e w9 ⟨rfl, hb5⟩
    have HO := Lib.hid (HO.out.below hb5)
    have HA := Lib.hid (HA.out.below hb5)
    clear hb5 HX
    have n15 : Arr (w9.alloc (.cells (row zrow) 73)) w9.heap.size 73 zrow := Arr.new _ _ _
    have hi5 : (Tryd.prog.info? 73).map (·.size) = some (row (app u t)).size := by rw [row_size, app_len, HTL.out.1]; exact infoT
    have hs5 : (row zrow).size = (row (app u t)).size := by rw [row_size, row_size, app_len, HTL.out.1]; rfl
    have N15 := Lib.hid (And.intro n15 (And.intro hi5 hs5))
    clear n15 hi5 hs5
    go_upto_region 11 with (refine wpList_store_row rfl 73 _ _ rfl rfl w9.heap.size 73 _ _ rfl rfl N15.out.1 N15.out.2.2 N15.out.2.1 (row_one _) ?_)
    obtain ⟨hb10, hz10, -⟩ := box_row w9 73 zrow (app u t)
    generalize (w9.alloc (.cells (row zrow) 73)).setRow w9.heap.size (row (app u t)) = w10 at hb10 hz10 ⊢
    obtain ⟨gb, hgb⟩ : ∃ gb, w9.heap.size = gb := ⟨_, rfl⟩
    rw [hgb] at hz10 ⊢
    have HO := Lib.hid (HO.out.below hb10)
    have HA := Lib.hid (HA.out.below hb10)
    have HZ := Lib.hid hz10
    clear hb10 hz10 hgb
    have HX := Lib.hid (print_any w10 g8 _ t HA.out.t8 HTL.out.1 HTL.out.2)
    go_wp2_with fail
    refine HX.out.mono ?_
    rintro e w11 ⟨v, v2, rfl, ho, ho2, hap, hb5⟩
    have HO := Lib.hid (HO.out.two HA.out.lt.2.2.2.2.2 ho ho2 hap hb5 ⟨pfTo_isB t 256 (Nat.le_refl _), by have := pfTo_len t 256; omega⟩ ⟨ptTo_isB t HTL.out.2 256, by have := pfTo_len t 256; rw [ptTo_len]; omega⟩)
    have HA := Lib.hid (HA.out.below hb5)
    have HZ : Hid (Arr w11 gb 73 (app u t)) := Lib.hid (HZ.out.below hb5 HZ.out.lt)
    obtain ⟨a4, c4, rfl⟩ := ho.shape
    obtain ⟨a5, c5, rfl⟩ := ho2.shape
    clear ho ho2 hap hb5 HX
    have HX := Lib.hid (print_any w11 g8 _ t HA.out.t8 HTL.out.1 HTL.out.2)
    go_wp2_with fail
    refine HX.out.mono ?_
    rintro e w12 ⟨v, v2, rfl, ho, ho2, hap, hb5⟩
    have HO := Lib.hid (HO.out.two HA.out.lt.2.2.2.2.2 ho ho2 hap hb5 ⟨pfTo_isB t 256 (Nat.le_refl _), by have := pfTo_len t 256; omega⟩ ⟨ptTo_isB t HTL.out.2 256, by have := pfTo_len t 256; rw [ptTo_len]; omega⟩)
    have HA := Lib.hid (HA.out.below hb5)
    have HZ : Hid (Arr w12 gb 73 (app u t)) := Lib.hid (HZ.out.below hb5 HZ.out.lt)
    obtain ⟨a6, c6, rfl⟩ := ho.shape
    obtain ⟨a7, c7, rfl⟩ := ho2.shape
    clear ho ho2 hap hb5 HX
    have HX := Lib.hid (rprint_any w12 g3 _ t HA.out.t3 HTL.out.1 HTL.out.2)
    go_wp2_with fail
    refine HX.out.mono ?_
    rintro e w13 ⟨v, v2, rfl, ho, ho2, hap, hb5⟩
    have HO := Lib.hid (HO.out.two HA.out.lt.2.2.2.2.2 ho ho2 hap hb5 ⟨pfTo_isB t 256 (Nat.le_refl _), by have := pfTo_len t 256; omega⟩ ⟨ptTo_isB t HTL.out.2 256, by have := pfTo_len t 256; rw [ptTo_len]; omega⟩)
    have HA := Lib.hid (HA.out.below hb5)
    have HZ : Hid (Arr w13 gb 73 (app u t)) := Lib.hid (HZ.out.below hb5 HZ.out.lt)
    obtain ⟨a8, c8, rfl⟩ := ho.shape
    obtain ⟨a9, c9, rfl⟩ := ho2.shape
    clear ho ho2 hap hb5 HX
    have hFl := pfTo_len t 256
    have hPl := ptTo_len t 256
    obtain ⟨F, hF⟩ : ∃ F, pfTo t 256 = F := ⟨_, rfl⟩
    obtain ⟨P, hP⟩ : ∃ P, ptTo t 256 = P := ⟨_, rfl⟩
    rw [hF, hP] at HO
    rw [hF] at hFl
    rw [hF, hP] at hPl
    rw [hF, hP]
    obtain ⟨vs, ls, HOV⟩ : ∃ vs ls, Hid (OF w13 B 10 vs ls ∧ (vs 0 = .slice a0 b.length c0 ∧ ls 0 = app t b) ∧ (vs 1 = .slice a1 b.length c1 ∧ ls 1 = app t b) ∧ (vs 2 = .slice a2 b.length c2 ∧ ls 2 = app t b) ∧ (vs 3 = .slice a3 b.length c3 ∧ ls 3 = app u b) ∧ (vs 4 = .slice a4 F.length c4 ∧ ls 4 = F) ∧ (vs 5 = .slice a5 P.length c5 ∧ ls 5 = P) ∧ (vs 6 = .slice a6 F.length c6 ∧ ls 6 = F) ∧ (vs 7 = .slice a7 P.length c7 ∧ ls 7 = P) ∧ (vs 8 = .slice a8 F.length c8 ∧ ls 8 = F) ∧ (vs 9 = .slice a9 P.length c9 ∧ ls 9 = P)) := ⟨_, _, Lib.hid ⟨HO.out, ⟨rfl, rfl⟩, ⟨rfl, rfl⟩, ⟨rfl, rfl⟩, ⟨rfl, rfl⟩, ⟨rfl, rfl⟩, ⟨rfl, rfl⟩, ⟨rfl, rfl⟩, ⟨rfl, rfl⟩, ⟨rfl, rfl⟩, ⟨rfl, rfl⟩⟩⟩
    have HI : Hid (TO W w13 B g3 g4 g8 g9 gi gb t u t u b (app u t) 10 vs ls) := Lib.hid ⟨HA.out, HOV.out.1, HZ.out⟩
    have HV := Lib.hid HOV.out.2
    have HFP := Lib.hid (And.intro hFl hPl)
    have HOT : Hid (IsB (app t b) ∧ (app t b).length ≤ 140737488351232) := Lib.hid ⟨app_isB t b HTL.out.2, by rw [app_len]; exact hn⟩
    have HOU : Hid (IsB (app u b) ∧ (app u b).length ≤ 140737488351232) := Lib.hid ⟨app_isB u b HUL.out.2, by rw [app_len]; exact hn⟩
    clear HO HOV HA HZ hF hP hFl hPl
    have hI := HI.out
    have hId := hI.below (Below.refl _ _).drew
    have HSB : Hid (∀ w', TO W w' B g3 g4 g8 g9 gi gb t u t u b (app u t) 10 vs ls → SB w' (.slice a0 b.length c0) (app t b) ∧ SB w' (.slice a1 b.length c1) (app t b) ∧ SB w' (.slice a2 b.length c2) (app t b) ∧ SB w' (.slice a3 b.length c3) (app u b) ∧ SB w' (.slice a4 F.length c4) (F) ∧ SB w' (.slice a5 P.length c5) (P) ∧ SB w' (.slice a6 F.length c6) (F) ∧ SB w' (.slice a7 P.length c7) (P) ∧ SB w' (.slice a8 F.length c8) (F) ∧ SB w' (.slice a9 P.length c9) (P)) := Lib.hid fun w' h => ⟨(by have := h.of.sb 0 (by omega); rw [HV.out.1.1, HV.out.1.2] at this; exact this), (by have := h.of.sb 1 (by omega); rw [HV.out.2.1.1, HV.out.2.1.2] at this; exact this), (by have := h.of.sb 2 (by omega); rw [HV.out.2.2.1.1, HV.out.2.2.1.2] at this; exact this), (by have := h.of.sb 3 (by omega); rw [HV.out.2.2.2.1.1, HV.out.2.2.2.1.2] at this; exact this), (by have := h.of.sb 4 (by omega); rw [HV.out.2.2.2.2.1.1, HV.out.2.2.2.2.1.2] at this; exact this), (by have := h.of.sb 5 (by omega); rw [HV.out.2.2.2.2.2.1.1, HV.out.2.2.2.2.2.1.2] at this; exact this), (by have := h.of.sb 6 (by omega); rw [HV.out.2.2.2.2.2.2.1.1, HV.out.2.2.2.2.2.2.1.2] at this; exact this), (by have := h.of.sb 7 (by omega); rw [HV.out.2.2.2.2.2.2.2.1.1, HV.out.2.2.2.2.2.2.2.1.2] at this; exact this), (by have := h.of.sb 8 (by omega); rw [HV.out.2.2.2.2.2.2.2.2.1.1, HV.out.2.2.2.2.2.2.2.2.1.2] at this; exact this), (by have := h.of.sb 9 (by omega); rw [HV.out.2.2.2.2.2.2.2.2.2.1, HV.out.2.2.2.2.2.2.2.2.2.2] at this; exact this)⟩
    have HE1 : Hid (∀ w', TO W w' B g3 g4 g8 g9 gi gb t u t u b (app u t) 10 vs ls → Calls Tryd.prog 35 #[.slice a1 b.length c1, .slice a0 b.length c0] w' fun e w'' => e = .returned (.bool true) ∧ ∃ q, w'' = w'.drewN q) := Lib.hid fun w' h => eqBytes_same w' _ _ _ (HSB.out w' h).2.1 (HSB.out w' h).1
    have HE2 : Hid (∀ w', TO W w' B g3 g4 g8 g9 gi gb t u t u b (app u t) 10 vs ls → ∀ v, SB w' v (app u b) → Calls Tryd.prog 35 #[.slice a3 b.length c3, v] w' fun e w'' => e = .returned (.bool true) ∧ ∃ q, w'' = w'.drewN q) := Lib.hid fun w' h v s => eqBytes_same w' _ _ _ (HSB.out w' h).2.2.2.1 s
    have HE3 : Hid (∀ w', TO W w' B g3 g4 g8 g9 gi gb t u t u b (app u t) 10 vs ls → Calls Tryd.prog 35 #[.slice a4 F.length c4, .slice a8 F.length c8] w' fun e w'' => e = .returned (.bool true) ∧ ∃ q, w'' = w'.drewN q) := Lib.hid fun w' h => eqBytes_same w' _ _ _ (HSB.out w' h).2.2.2.2.1 (HSB.out w' h).2.2.2.2.2.2.2.2.1
    have HE4 : Hid (∀ w', TO W w' B g3 g4 g8 g9 gi gb t u t u b (app u t) 10 vs ls → Calls Tryd.prog 35 #[.slice a5 P.length c5, .slice a9 P.length c9] w' fun e w'' => e = .returned (.bool true) ∧ ∃ q, w'' = w'.drewN q) := Lib.hid fun w' h => eqBytes_same w' _ _ _ (HSB.out w' h).2.2.2.2.2.1 (HSB.out w' h).2.2.2.2.2.2.2.2.2
    have HRA : Hid (∀ w', TO W w' B g3 g4 g8 g9 gi gb t u t u b (app u t) 10 vs ls → Calls Tryd.prog 30 #[.pointer (some ⟨g4, 0, none⟩), .slice a b.length c] w' (TwinPost w' (app u b))) := Lib.hid fun w' h => rapply_any w' g4 _ u b a b.length c h.ta.t4 HUL.out.1 (ST.out.below h.ta.bel)
    have HRT : Hid (∀ w', TO W w' B g3 g4 g8 g9 gi gb t u t u b (app u t) 10 vs ls → Calls Tryd.prog 36 #[.pointer (some ⟨g3, 0, none⟩), .pointer (some ⟨g4, 0, none⟩)] w' fun e w'' => e = .returned (.agg (row (app u t))) ∧ Below w'.heap.size w' w'') := Lib.hid fun w' h => rthen_any w' g3 g4 _ _ t u h.ta.t3 h.ta.t4 HTL.out.1 HUL.out.1 HTL.out.2
    have hlz : (app u t).length = 256 := by rw [app_len]; exact HTL.out.1
    have heq : ∀ w, (binOp .neq 73 (.agg (row (app u t))) (.agg (row (app u t)))).run Tryd.prog w = .ok (.bool false) w := fun w => by
      rw [run_neq_row w _ _ hlz hlz]; simp
    have hgu := fun w op x y xs ys => run_guardT w op x y xs ys
    have hut := Tryd.underlying73
    have hit : (Tryd.prog.info? 73).map (·.size) = some (row (app u t)).toList.length := by rw [Array.length_toList, row_size, hlz]; exact infoT
    have hz0 := hI.z.range
    have HLZ := Lib.hid hlz
    clear hlz
    have HD : Hid (∀ n, TO W (w13.drewN n) B g3 g4 g8 g9 gi gb t u t u b (app u t) 10 vs ls) := Lib.hid fun n => HI.out.below (below_drewN (Below.refl _ _) n)
    go_upto_region 14 with fail
    go_cut [89] (fun v wx => v = .bool false ∧ TO W wx B g3 g4 g8 g9 gi gb t u t u b (app u t) 10 vs ls)
    case first =>
      go_region_held3 (fun w' => w'.rangeAt gb 0 (row (app u t)).toList ∧ TO W w' B g3 g4 g8 g9 gi gb t u t u b (app u t) 10 vs ls)
        (first | exact ⟨hI.z.range, hI⟩ | exact ⟨hId.z.range, hId⟩ | exact ⟨(HD.out _).z.range, HD.out _⟩)
        (first | (go_at_call 30; (with_reducible refine (HRA.out _ (by first | exact hI | exact hId | exact HD.out _)).mono ?_); rintro e w5 ⟨v10, rfl, ho5, hb5⟩; have hI := (by first | exact hI.below hb5 | exact hId.below hb5 | exact (HD.out _).below hb5); have s10 := ho5.sb HOU.out.1 HOU.out.2; have HD := Lib.hid (fun n => hI.below (below_drewN (Below.refl _ _) n)); have HS := Lib.hid (fun n => s10.below (below_drewN (Below.refl _ _) n))) | (go_at_call 36; (with_reducible refine (HRT.out _ (by first | exact hI | exact hId | exact HD.out _)).mono ?_); rintro e w6 ⟨rfl, hb6⟩; have hI := (by first | exact hI.below hb6 | exact hId.below hb6 | exact (HD.out _).below hb6); have HD := Lib.hid (fun n => hI.below (below_drewN (Below.refl _ _) n)); (try have s10 := s10.below hb6)) | (go_at_call 35; (with_reducible refine (HE1.out _ (by first | exact hI | exact hId | exact HD.out _)).mono ?_); rintro e w7 ⟨rfl, n1, rfl⟩; have hI := (by first | exact hI.below (below_drewN (Below.refl _ _) n1) | exact hId.below (below_drewN (Below.refl _ _) n1)); (try have s10 := s10.below (below_drewN (Below.refl _ _) n1))) | (go_at_call 35; (with_reducible refine (HE3.out _ (by first | exact hI | exact hId | exact HD.out _)).mono ?_); rintro e w7 ⟨rfl, n3, rfl⟩; have hI := (by first | exact hI.below (below_drewN (Below.refl _ _) n3) | exact hId.below (below_drewN (Below.refl _ _) n3)); (try have s10 := s10.below (below_drewN (Below.refl _ _) n3))) | (go_at_call 35; (with_reducible refine (HE4.out _ (by first | exact hI | exact hId | exact HD.out _)).mono ?_); rintro e w7 ⟨rfl, n4, rfl⟩; have hI := (by first | exact hI.below (below_drewN (Below.refl _ _) n4) | exact hId.below (below_drewN (Below.refl _ _) n4)); (try have s10 := s10.below (below_drewN (Below.refl _ _) n4))) | (go_at_call 35; (with_reducible refine (HE2.out _ (by first | exact hI | exact hId | exact HD.out _) _ (by first | exact s10 | exact HS.out _)).mono ?_); rintro e w7 ⟨rfl, n2, rfl⟩; have hI := (by first | exact hI.below (below_drewN (Below.refl _ _) n2) | exact hId.below (below_drewN (Below.refl _ _) n2))))
      have HI := Lib.hid (HD.out (n3 + n4))
      go_wp2_with fail
      go_meet
      case rel => exact ⟨rfl, HI.out⟩
    case rest =>
    obtain ⟨rfl, hIz⟩ := hcut
    have HI := Lib.hid hIz
    clear hI hId HD HSB HE1 HE2 HE3 HE4 HRA HRT heq hit hz0 hIz
    generalize wc = wz at HI ⊢
    have hi3 : (Tryd.prog.info? 73).map (·.size) = some (row t).size := by rw [row_size, HTL.out.1]; exact infoT
    have hi4 : (Tryd.prog.info? 73).map (·.size) = some (row u).size := by rw [row_size, HUL.out.1]; exact infoT
    have heqt : ∀ w, (binOp .neq 73 (.agg (row t)) (.agg (row t))).run Tryd.prog w = .ok (.bool false) w := fun w => by
      rw [run_neq_row w _ _ HTL.out.1 HTL.out.1]; simp
    have hequ : ∀ w, (binOp .neq 73 (.agg (row u)) (.agg (row u))).run Tryd.prog w = .ok (.bool false) w := fun w => by
      rw [run_neq_row w _ _ HUL.out.1 HUL.out.1]; simp
    have HI34 := Lib.hid (And.intro hi3 hi4)
    clear hi3 hi4
    go_upto_region 16 with fail
    go_cut [108] (fun v wx => v = .bool false ∧ TO W wx B g3 g4 g8 g9 gi gb t u t u b (app u t) 10 vs ls)
    case first =>
      go_wp2_with (first | (refine wpList_load_row rfl 73 _ rfl g8 rfl 73 _ (0, 0) _ HI.out.ta.t8 Tryd.underlying73 rfl HI34.out.1 ?_) | (refine wpList_load_row rfl 73 _ rfl g3 rfl 73 _ (0, 0) _ HI.out.ta.t3 Tryd.underlying73 rfl HI34.out.1 ?_))
      refine wp_load_row 73 _ rfl g9 rfl 73 _ (0, 0) _ HI.out.ta.t9 Tryd.underlying73 rfl HI34.out.2 ?_
      go_wp2_with fail
      refine wp_load_row 73 _ rfl g4 rfl 73 _ (0, 0) _ HI.out.ta.t4 Tryd.underlying73 rfl HI34.out.2 ?_
      have HE := Lib.hid (eqBytes_same wz _ _ b (Arr.wide_sb HI.out.ta.i ST.out.1 hn (b.length + 64)) (ST.out.below HI.out.ta.bel))
      go_wp2_with fail
      refine HE.out.mono ?_
      rintro e wy ⟨rfl, n5, rfl⟩
      have HI := Lib.hid (HI.out.below (below_drewN (Below.refl _ _) n5))
      generalize wz.drewN n5 = wy at HI ⊢
      clear HE
      have HE := Lib.hid (spareL_any wy gi b.length _ hn (wide b) (wide_len b) (fun j h1 h2 => wide_hi b j h1 h2) HI.out.ta.i)
      go_wp2_with fail
      refine HE.out.mono ?_
      rintro e wx ⟨rfl, n6, rfl⟩
      have HI := Lib.hid (HI.out.below (below_drewN (Below.refl _ _) n6))
      generalize wy.drewN n6 = wx at HI ⊢
      clear HE
      go_wp2_with fail
      go_meet
      case rel => exact ⟨rfl, HI.out⟩
    case rest =>
    obtain ⟨rfl, hIz⟩ := hcut
    have HI := Lib.hid hIz
    clear hIz heqt hequ
    generalize wc = wx at HI ⊢
    have hB : TB W wx g8 t 11 (snoc vs 10 (.slice (some ⟨gi, 0, none⟩) b.length (b.length + 64))) (snoc ls 10 b) := by
      have h := HI.out
      refine ⟨h.ta.bel, h.ta.le.2.2.1, h.ta.t8, HTL.out, (h.of.lower h.ta.own).push ?_ ⟨ST.out.1, hn⟩ fun j hj k e1 e2 => ?_⟩
      · have := h.ta.i.own (base := W.heap.size) (n := b.length) h.ta.le.2.2.2.2 (wide_len b) (by unfold maxLen; omega) (by omega)
        rwa [show (wide b).take b.length = b from List.take_left] at this
      · have h1 := (h.of.lt hj k e1).1
        have h2 := h.ta.lt.2.2.2.2.1
        simp only [Value.ownBlock, Option.some.injEq] at e2
        omega
    obtain ⟨vt, lt, HTV⟩ : ∃ vt lt, Hid (TB W wx g8 t 11 vt lt ∧ ((vt 0 = .slice a0 b.length c0 ∧ lt 0 = app t b) ∧ (vt 1 = .slice a1 b.length c1 ∧ lt 1 = app t b) ∧ (vt 2 = .slice a2 b.length c2 ∧ lt 2 = app t b) ∧ (vt 3 = .slice a3 b.length c3 ∧ lt 3 = app u b) ∧ (vt 4 = .slice a4 F.length c4 ∧ lt 4 = F) ∧ (vt 5 = .slice a5 P.length c5 ∧ lt 5 = P) ∧ (vt 6 = .slice a6 F.length c6 ∧ lt 6 = F) ∧ (vt 7 = .slice a7 P.length c7 ∧ lt 7 = P) ∧ (vt 8 = .slice a8 F.length c8 ∧ lt 8 = F) ∧ (vt 9 = .slice a9 P.length c9 ∧ lt 9 = P) ∧ (vt 10 = .slice (some ⟨gi, 0, none⟩) b.length (b.length + 64) ∧ lt 10 = b))) := ⟨_, _, Lib.hid ⟨hB, HV.out.1, HV.out.2.1, HV.out.2.2.1, HV.out.2.2.2.1, HV.out.2.2.2.2.1, HV.out.2.2.2.2.2.1, HV.out.2.2.2.2.2.2.1, HV.out.2.2.2.2.2.2.2.1, HV.out.2.2.2.2.2.2.2.2.1, HV.out.2.2.2.2.2.2.2.2.2, rfl, rfl⟩⟩
    have HV := Lib.hid HTV.out.2
    have HW0 := Lib.hid (OW.start HTV.out.1 1)
    clear HI HTV hB
    go_wp2_with fail
    go_loopw [22] (fun x wr => ∃ (i : Nat) (ls' : Nat → List Int), i ≤ b.length ∧ x = .int .i64 i ∧ OW W wr g8 t 11 vt lt ls' 1) (fun x _ => b.length - (intOf x).toNat)
    case atStart => exact ⟨0, _, Nat.zero_le _, rfl, HW0.out⟩
    case round =>
      clear HW0
      obtain ⟨i, l1, hi, rfl, hW⟩ := hrel
      have HW := Lib.hid hW
      by_cases hlt : i < b.length
      · have hl : (l1 1).length = b.length := by rw [hW.len, HV.out.2.1.2, app_len]
        obtain ⟨g1, cc, he, -, -, -⟩ := (hW.tb.of.own 1 (by omega)).some_ (by omega)
        rw [HV.out.2.1.1] at he
        simp only [Value.slice.injEq] at he
        obtain ⟨rfl, -, rfl⟩ := he
        have ho := hW.tb.of.own 1 (by omega)
        rw [HV.out.2.1.1] at ho
        obtain ⟨hc, hf⟩ := ho.cellAt i hlt
        have hxb := (hW.tb.of.ok 1 (by omega)).1 i
        have hS := fun y h0 h1 => hW.store (by omega) HV.out.2.1.1 i y h0 h1
        generalize (l1 1)[i]?.getD 0 = x at hc hxb
        have hx2 := bits8 (c := 85) (by decide) x hxb.1 hxb.2
        have HS := Lib.hid (hS _ hx2.1 hx2.2)
        clear hW ho hS hl hxb hx2
        go_wp2_with fail
        go_roundw
        case rel => exact ⟨i + 1, _, by omega, by go_num, HS.out⟩
        case measure => simp [intOf]; omega
      · clear hW
        have H1 : Hid (∀ k, k ≠ 1 → l1 k = lt k) := Lib.hid HW.out.others
        have HW0 := Lib.hid (OW.start HW.out.tb 4)
        clear HW
        go_wp2_with fail
        go_loopw [23] (fun x wr => ∃ (i : Nat) (ls' : Nat → List Int), i ≤ F.length ∧ x = .int .i64 i ∧ OW W wr g8 t 11 vt l1 ls' 4) (fun x _ => F.length - (intOf x).toNat)
        case atStart => exact ⟨0, _, Nat.zero_le _, rfl, HW0.out⟩
        case round =>
          clear HW0
          obtain ⟨i, l2, hi, rfl, hW⟩ := hrel
          have HW := Lib.hid hW
          by_cases hlt : i < F.length
          · have hF256 := HFP.out.1
            have hl : (l2 4).length = F.length := by rw [hW.len, H1.out 4 (by omega), HV.out.2.2.2.2.1.2]
            obtain ⟨g1, cc, he, -, -, -⟩ := (hW.tb.of.own 4 (by omega)).some_ (by omega)
            rw [HV.out.2.2.2.2.1.1] at he
            simp only [Value.slice.injEq] at he
            obtain ⟨rfl, -, rfl⟩ := he
            have ho := hW.tb.of.own 4 (by omega)
            rw [HV.out.2.2.2.2.1.1] at ho
            obtain ⟨hc, hf⟩ := ho.cellAt i hlt
            have HS := Lib.hid (hW.store (by omega) HV.out.2.2.2.2.1.1 i 7 (by omega) (by omega))
            generalize (l2 4)[i]?.getD 0 = x at hc
            clear hW ho hl
            go_wp2_with fail
            go_roundw
            case rel => exact ⟨i + 1, _, by omega, by go_num, HS.out⟩
            case measure => simp [intOf]; omega
          · clear hW
            have H2 : Hid (∀ k, k ≠ 4 → l2 k = l1 k) := Lib.hid HW.out.others
            have HT := Lib.hid HW.out.tb
            have HSB : Hid (∀ w', TB W w' g8 t 11 vt l2 → SB w' (.slice a0 b.length c0) (app t b) ∧ SB w' (.slice a2 b.length c2) (app t b) ∧ SB w' (.slice a6 F.length c6) F ∧ SB w' (.slice a8 F.length c8) F ∧ SB w' (.slice a5 P.length c5) P ∧ SB w' (.slice a7 P.length c7) P ∧ SB w' (.slice a9 P.length c9) P ∧ SB w' (.slice (some ⟨gi, 0, none⟩) b.length (b.length + 64)) b) := Lib.hid fun w' h => ⟨(by have := h.of.sb 0 (by omega); rw [HV.out.1.1, (H2.out 0 (by omega)).trans ((H1.out 0 (by omega)).trans HV.out.1.2)] at this; exact this), (by have := h.of.sb 2 (by omega); rw [HV.out.2.2.1.1, (H2.out 2 (by omega)).trans ((H1.out 2 (by omega)).trans HV.out.2.2.1.2)] at this; exact this), (by have := h.of.sb 6 (by omega); rw [HV.out.2.2.2.2.2.2.1.1, (H2.out 6 (by omega)).trans ((H1.out 6 (by omega)).trans HV.out.2.2.2.2.2.2.1.2)] at this; exact this), (by have := h.of.sb 8 (by omega); rw [HV.out.2.2.2.2.2.2.2.2.1.1, (H2.out 8 (by omega)).trans ((H1.out 8 (by omega)).trans HV.out.2.2.2.2.2.2.2.2.1.2)] at this; exact this), (by have := h.of.sb 5 (by omega); rw [HV.out.2.2.2.2.2.1.1, (H2.out 5 (by omega)).trans ((H1.out 5 (by omega)).trans HV.out.2.2.2.2.2.1.2)] at this; exact this), (by have := h.of.sb 7 (by omega); rw [HV.out.2.2.2.2.2.2.2.1.1, (H2.out 7 (by omega)).trans ((H1.out 7 (by omega)).trans HV.out.2.2.2.2.2.2.2.1.2)] at this; exact this), (by have := h.of.sb 9 (by omega); rw [HV.out.2.2.2.2.2.2.2.2.2.1.1, (H2.out 9 (by omega)).trans ((H1.out 9 (by omega)).trans HV.out.2.2.2.2.2.2.2.2.2.1.2)] at this; exact this), (by have := h.of.sb 10 (by omega); rw [HV.out.2.2.2.2.2.2.2.2.2.2.1, (H2.out 10 (by omega)).trans ((H1.out 10 (by omega)).trans HV.out.2.2.2.2.2.2.2.2.2.2.2)] at this; exact this)⟩
            clear HW
            have HE := Lib.hid (eqBytes_same wr _ _ _ (HSB.out wr HT.out).2.1 (HSB.out wr HT.out).1)
            go_wp2_with fail
            refine HE.out.mono ?_
            rintro e wq1 ⟨rfl, nq, rfl⟩
            have HT := Lib.hid (HT.out.below (below_drewN (Below.refl _ _) nq))
            generalize wr.drewN nq = wq1 at HT ⊢
            clear HE
            have HE := Lib.hid (eqBytes_same wq1 _ _ _ (HSB.out wq1 HT.out).2.2.1 (HSB.out wq1 HT.out).2.2.2.1)
            go_wp2_with fail
            refine HE.out.mono ?_
            rintro e wq2 ⟨rfl, nq, rfl⟩
            have HT := Lib.hid (HT.out.below (below_drewN (Below.refl _ _) nq))
            generalize wq1.drewN nq = wq2 at HT ⊢
            clear HE
            have HE := Lib.hid (eqBytes_same wq2 _ _ _ (HSB.out wq2 HT.out).2.2.2.2.1 (HSB.out wq2 HT.out).2.2.2.2.2.2.1)
            go_wp2_with fail
            refine HE.out.mono ?_
            rintro e wq3 ⟨rfl, nq, rfl⟩
            have HT := Lib.hid (HT.out.below (below_drewN (Below.refl _ _) nq))
            generalize wq2.drewN nq = wq3 at HT ⊢
            clear HE
            have HE := Lib.hid (eqBytes_same wq3 _ _ _ (HSB.out wq3 HT.out).2.2.2.2.2.1 (HSB.out wq3 HT.out).2.2.2.2.2.2.1)
            go_wp2_with fail
            refine HE.out.mono ?_
            rintro e wq4 ⟨rfl, nq, rfl⟩
            have HT := Lib.hid (HT.out.below (below_drewN (Below.refl _ _) nq))
            generalize wq3.drewN nq = wq4 at HT ⊢
            clear HE
            have HX := Lib.hid (applyO wq4 g8 _ t b _ HT.out.t8 HTL.out.1 (HSB.out wq4 HT.out).2.2.2.2.2.2.2)
            go_wp2_with fail
            refine HX.out.mono ?_
            rintro e wr5 ⟨v, rfl, ho, hb5⟩
            have HT := Lib.hid (HT.out.below hb5)
            clear ho HX hb5 HSB
            have HW0 := Lib.hid (OW.start HT.out 10)
            clear HT
            go_wp2_with fail
            go_loopw [24] (fun x wr => ∃ (i : Nat) (ls' : Nat → List Int), i ≤ b.length ∧ x = .int .i64 i ∧ OW W wr g8 t 11 vt l2 ls' 10) (fun x _ => b.length - (intOf x).toNat)
            case atStart => exact ⟨0, _, Nat.zero_le _, rfl, HW0.out⟩
            case round =>
              clear HW0
              obtain ⟨i, l3, hi, rfl, hW⟩ := hrel
              have HW := Lib.hid hW
              by_cases hlt : i < b.length
              · have hl : (l3 10).length = b.length := by rw [hW.len, H2.out 10 (by omega), H1.out 10 (by omega), HV.out.2.2.2.2.2.2.2.2.2.2.2]
                have ho := hW.tb.of.own 10 (by omega)
                rw [HV.out.2.2.2.2.2.2.2.2.2.2.1] at ho
                obtain ⟨hc, hf⟩ := ho.cellAt i hlt
                have hxb := (hW.tb.of.ok 10 (by omega)).1 i
                have hS := fun y h0 h1 => hW.store (by omega) HV.out.2.2.2.2.2.2.2.2.2.2.1 i y h0 h1
                generalize (l3 10)[i]?.getD 0 = x at hc hxb
                have hx2 := bits8 (c := 1) (by decide) x hxb.1 hxb.2
                have HS := Lib.hid (hS _ hx2.1 hx2.2)
                clear hW ho hS hl hxb hx2
                go_wp2_with fail
                go_roundw
                case rel => exact ⟨i + 1, _, by omega, by go_num, HS.out⟩
                case measure => simp [intOf]; omega
              · clear hW
                have HT := Lib.hid HW.out.tb
                have HL3 := Lib.hid HW.out.len
                clear HW
                go_wp2_with fail
                go_loopw [25] (fun y wr => ∃ (i : Nat) (x : List Int), i ≤ 256 ∧ y = .int .i64 i ∧ TB W wr g8 x 11 vt l3) (fun y _ => 256 - (intOf y).toNat)
                case atStart => exact ⟨0, _, Nat.zero_le _, rfl, HT.out⟩
                case round =>
                  clear HT
                  obtain ⟨i, x, hi, rfl, hT⟩ := hrel
                  have HT := Lib.hid hT
                  by_cases hlt : i < 256
                  · have hc := hT.t8.cell i (by rw [hT.ok.1]; exact hlt)
                    have hf := hT.t8.frozen i
                    have hxb := hT.ok.2 i
                    have hS := fun y h0 h1 => hT.set i y h0 h1
                    have hlt' : (i : Int) < 256 := by omega
                    generalize x[i]?.getD 0 = q at hc hxb
                    have hx2 := bits8 (c := 1) (by decide) q hxb.1 hxb.2
                    have HS := Lib.hid (hS _ hx2.1 hx2.2)
                    clear hT hS hxb hx2
                    go_wp2_with fail
                    go_roundw
                    case rel => exact ⟨i + 1, _, by omega, by go_num, HS.out⟩
                    case measure => simp [intOf]; omega
                  · clear hT
                    have hix : (Tryd.prog.info? 73).map (·.size) = some (row x).size := by rw [row_size, HT.out.ok.1]; exact infoT
                    have hsx : (row zrow).size = (row x).size := by rw [row_size, row_size, HT.out.ok.1]; rfl
                    have n26 : Arr (wr.alloc (.cells (row zrow) 73)) wr.heap.size 73 zrow := Arr.new _ _ _
                    have HX := Lib.hid (And.intro hix (And.intro hsx n26))
                    clear hix hsx n26
                    go_upto_region 38 with (first | (refine wpList_load_row rfl 73 _ rfl g8 rfl 73 _ (0, 0) _ HT.out.t8 Tryd.underlying73 rfl HX.out.1 ?_) | (refine wpList_store_row rfl 73 _ _ rfl rfl wr.heap.size 73 _ _ rfl rfl HX.out.2.2 HX.out.2.1 HX.out.1 (row_one _) ?_))
                    obtain ⟨hb10, hz10, -⟩ := box_row wr 73 zrow x
                    generalize (wr.alloc (.cells (row zrow) 73)).setRow wr.heap.size (row x) = wa at hb10 hz10 ⊢
                    obtain ⟨gz, hgz⟩ : ∃ gz, wr.heap.size = gz := ⟨_, rfl⟩
                    rw [hgz] at hz10 ⊢
                    have HT := Lib.hid (HT.out.below hb10)
                    have HZ := Lib.hid hz10
                    clear hb10 hz10 hgz HX
                    have HL3' : Hid ((l3 10).length = b.length) := Lib.hid (by rw [HL3.out, H2.out 10 (by omega), H1.out 10 (by omega), HV.out.2.2.2.2.2.2.2.2.2.2.2])
                    have hsi : SB wa (.slice (some ⟨gi, 0, none⟩) b.length (b.length + 64)) (l3 10) := by
                      have := HT.out.of.sb 10 (by omega)
                      rw [HV.out.2.2.2.2.2.2.2.2.2.2.1] at this
                      exact this
                    have HX := Lib.hid (applyO wa g8 _ x (l3 10) _ HT.out.t8 HT.out.ok.1 hsi)
                    clear hsi
                    go_wp2_with fail
                    refine HX.out.mono ?_
                    rintro e wb ⟨v, rfl, ho, hb5⟩
                    obtain ⟨a11, c11, rfl⟩ := ho.shape
                    rw [app_len, HL3'.out] at ho ⊢
                    have HT := Lib.hid (HT.out.fresh ho hb5 ⟨app_isB x _ HT.out.ok.2, by rw [app_len, HL3'.out]; exact hn⟩)
                    have HZ : Hid (Arr wb gz 73 x) := Lib.hid (HZ.out.below hb5 HZ.out.lt)
                    clear ho HX hb5
                    have hsi : SB wb (.slice (some ⟨gi, 0, none⟩) b.length (b.length + 64)) (l3 10) := by
                      have := HT.out.of.sb 10 (by omega)
                      rw [snoc_lt _ _ (by omega : 10 < 11), snoc_lt _ _ (by omega : 10 < 11), HV.out.2.2.2.2.2.2.2.2.2.2.1] at this
                      exact this
                    have HX := Lib.hid (copy_any wb _ _ hsi)
                    clear hsi
                    go_wp2_with fail
                    refine HX.out.mono ?_
                    rintro e wd ⟨v, rfl, ho, hb5⟩
                    have hIB := (HT.out.of.ok 10 (by omega))
                    rw [snoc_lt _ _ (by omega : 10 < 11)] at hIB
                    have hsc := ho.sb hIB.1 hIB.2
                    obtain ⟨ac, cc, rfl⟩ := ho.shape
                    rw [HL3'.out] at hsc ⊢
                    have HT := Lib.hid (HT.out.below hb5)
                    have HZ : Hid (Arr wd gz 73 x) := Lib.hid (HZ.out.below hb5 HZ.out.lt)
                    clear ho HX hb5
                    have HX := Lib.hid (rapply_any wd gz _ x (l3 10) ac b.length cc HZ.out HT.out.ok.1 hsc)
                    clear hsc hIB
                    go_wp2_with fail
                    refine HX.out.mono ?_
                    rintro e we ⟨v, rfl, ho, hb5⟩
                    have HT := Lib.hid (HT.out.below hb5)
                    have hs2 := ho.sb (app_isB x _ HT.out.ok.2) (by rw [app_len, HL3'.out]; exact hn)
                    have hs1 : SB we (.slice a11 b.length c11) (app x (l3 10)) := by
                      have := HT.out.of.sb 11 (by omega)
                      rw [snoc_same, snoc_same] at this
                      exact this
                    have HE := Lib.hid (eqBytes_same we _ _ _ hs1 hs2)
                    obtain ⟨ax, cx, rfl⟩ := ho.shape
                    clear ho hs1 hs2 HX hb5
                    go_wp2_with fail
                    refine HE.out.mono ?_
                    rintro e wf ⟨rfl, nq, rfl⟩
                    have HT := Lib.hid (HT.out.below (below_drewN (Below.refl _ _) nq))
                    generalize we.drewN nq = wf at HT ⊢
                    clear HE
                    have hg := HT.out.of.gp HT.out.bel [1, 2, 3, 11, 4, 5, 6, 7, 10] (by decide) (by decide)
                    have hpd : ([1, 2, 3, 11, 4, 5, 6, 7, 10].map fun j => (snoc vt 11 (.slice a11 b.length c11) j, snoc l3 11 (app x (l3 10)) j)) = [(.slice a1 b.length c1, l3 1), (.slice a2 b.length c2, l3 2), (.slice a3 b.length c3, l3 3), (.slice a11 b.length c11, app x (l3 10)), (.slice a4 F.length c4, l3 4), (.slice a5 P.length c5, l3 5), (.slice a6 F.length c6, l3 6), (.slice a7 P.length c7, l3 7), (.slice (some ⟨gi, 0, none⟩) b.length (b.length + 64), l3 10)] := by
                      show [(vt 1, l3 1), (vt 2, l3 2), (vt 3, l3 3), (.slice a11 b.length c11, app x (l3 10)), (vt 4, l3 4), (vt 5, l3 5), (vt 6, l3 6), (vt 7, l3 7), (vt 10, l3 10)] = _
                      rw [HV.out.2.1.1, HV.out.2.2.1.1, HV.out.2.2.2.1.1, HV.out.2.2.2.2.1.1, HV.out.2.2.2.2.2.1.1, HV.out.2.2.2.2.2.2.1.1, HV.out.2.2.2.2.2.2.2.1.1, HV.out.2.2.2.2.2.2.2.2.2.2.1]
                    rw [hpd] at hg
                    have HG := Lib.hid hg
                    obtain ⟨bg, hbg⟩ : ∃ bg, wf.heap.size = bg := ⟨_, rfl⟩
                    rw [hbg] at HG
                    clear hg hpd HT HZ
                    go_upto_region 42 with fail
                    change Code.wp _ _ _ _ (wf.alloc bagZero)
                    generalize wf.alloc bagZero = wk at HG ⊢
                    clear hbg
                    have HA := Lib.hid (HG.out.addC (by omega))
                    go_wp2_with fail
                    refine HA.out.mono ?_
                    intro e wk0 hP
                    obtain ⟨rfl, bv, vx, len, Cn, h21⟩ := HG.out.add hP
                    have HG := Lib.hid h21
                    clear hP h21 HA
                    have HA := Lib.hid (HG.out.addC (by omega))
                    go_wp2_with fail
                    refine HA.out.mono ?_
                    intro e wk1 hP
                    obtain ⟨rfl, bv, vx, len, Cn, h21⟩ := HG.out.add hP
                    have HG := Lib.hid h21
                    clear hP h21 HA
                    have HA := Lib.hid (HG.out.addC (by omega))
                    go_wp2_with fail
                    refine HA.out.mono ?_
                    intro e wk2 hP
                    obtain ⟨rfl, bv, vx, len, Cn, h21⟩ := HG.out.add hP
                    have HG := Lib.hid h21
                    clear hP h21 HA
                    have HA := Lib.hid (HG.out.addC (by omega))
                    go_wp2_with fail
                    refine HA.out.mono ?_
                    intro e wk3 hP
                    obtain ⟨rfl, bv, vx, len, Cn, h21⟩ := HG.out.add hP
                    have HG := Lib.hid h21
                    clear hP h21 HA
                    have HA := Lib.hid (HG.out.addC (by omega))
                    go_wp2_with fail
                    refine HA.out.mono ?_
                    intro e wk4 hP
                    obtain ⟨rfl, bv, vx, len, Cn, h21⟩ := HG.out.add hP
                    have HG := Lib.hid h21
                    clear hP h21 HA
                    have HA := Lib.hid (HG.out.addC (by omega))
                    go_wp2_with fail
                    refine HA.out.mono ?_
                    intro e wk5 hP
                    obtain ⟨rfl, bv, vx, len, Cn, h21⟩ := HG.out.add hP
                    have HG := Lib.hid h21
                    clear hP h21 HA
                    have HA := Lib.hid (HG.out.addC (by omega))
                    go_wp2_with fail
                    refine HA.out.mono ?_
                    intro e wk6 hP
                    obtain ⟨rfl, bv, vx, len, Cn, h21⟩ := HG.out.add hP
                    have HG := Lib.hid h21
                    clear hP h21 HA
                    have HA := Lib.hid (HG.out.addC (by omega))
                    go_wp2_with fail
                    refine HA.out.mono ?_
                    intro e wk7 hP
                    obtain ⟨rfl, bv, vx, len, Cn, h21⟩ := HG.out.add hP
                    have HG := Lib.hid h21
                    clear hP h21 HA
                    have HA := Lib.hid (HG.out.addC (by omega))
                    go_wp2_with fail
                    refine HA.out.mono ?_
                    intro e wk8 hP
                    obtain ⟨rfl, bv, vx, len, Cn, h21⟩ := HG.out.add hP
                    have HG := Lib.hid h21
                    clear hP h21 HA
                    have HA := Lib.hid (HG.out.apart (by omega))
                    go_wp2_with fail
                    refine HA.out.mono ?_
                    rintro e wl ⟨rfl, hb⟩
                    have HB := Lib.hid hb
                    clear hb HA HG
                    go_wp2_with fail
                    go_ret
                    exact ⟨rfl, HB.out⟩
end Go.Proofs.YtakimaceohfpcaaDoor
