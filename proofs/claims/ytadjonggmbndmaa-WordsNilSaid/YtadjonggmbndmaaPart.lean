/-
  words.Words.Part: the marks up to the next delimiter.
-/
import Derived.Test.YtadjonggmbndmaaNumber
import Derived.Test.YtadjonggmbndmaaOwnM
namespace Go.Proofs.Ytadjonggmbndmaa
open Go.RowKit

def PartPost (w : World) (g : Nat) (l : List Int) (a : Nat) (d : Int) (e : Bool) (r : Ending) (w' : World) : Prop :=
  match partL d e (l.drop a) with
  | some (m, n) => ∃ v, r = .returned (.tuple #[v, .int .i64 0]) ∧ OwnM w' w.heap.size v m ∧ IsM m ∧ m.length ≤ l.length ∧ Wd w' g l (a + n) ∧ w.grownBy w' (some g)
  | none => r = .returned (.tuple #[.slice none 0 0, .int .i64 70]) ∧ Wd w' g l a ∧ w.grownBy w' (some g)
theorem part_some {w w' : World} {g : Nat} {l : List Int} {a : Nat} {d : Int} {e : Bool} {m : List Mk} {n : Nat} {r : Ending} {v : Value} (h : partL d e (l.drop a) = some (m, n))
    (h1 : r = .returned (.tuple #[v, .int .i64 0])) (h2 : OwnM w' w.heap.size v m) (h3 : IsM m) (h4 : m.length ≤ l.length) (h5 : Wd w' g l (a + n)) (h6 : w.grownBy w' (some g)) : PartPost w g l a d e r w' := by
  unfold PartPost; rw [h]; exact ⟨v, h1, h2, h3, h4, h5, h6⟩
theorem part_none {w w' : World} {g : Nat} {l : List Int} {a : Nat} {d : Int} {e : Bool} {r : Ending} (h : partL d e (l.drop a) = none)
    (h1 : r = .returned (.tuple #[.slice none 0 0, .int .i64 70])) (h2 : Wd w' g l a) (h3 : w.grownBy w' (some g)) : PartPost w g l a d e r w' := by
  unfold PartPost; rw [h]; exact ⟨h1, h2, h3⟩

theorem part_bad (w : World) (g : Nat) (l : List Int) (a : Nat) (d : Int) (e : Bool) (hd : d = 92 ∨ d = 10) (h : Wd w g l a) :
    Calls Try.prog 28 #[.pointer (some ⟨g, 0, none⟩), .int .u8 d, .bool e] w fun r w' => r = .returned (.tuple #[.slice none 0 0, .int .i64 70]) ∧ w = w' := by
  rcases hd with rfl | rfl
  · go_enter Try.func28, Try.ntmps28
    go_wp2_with fail
    refine (isWords_yes w g l a h).mono ?_
    rintro r w' ⟨rfl, rfl⟩
    go_wp2_with fail
    go_ret2
    exact ⟨rfl, rfl⟩
  · go_enter Try.func28, Try.ntmps28
    go_wp2_with fail
    refine (isWords_yes w g l a h).mono ?_
    rintro r w' ⟨rfl, rfl⟩
    go_wp2_with fail
    go_ret2
    exact ⟨rfl, rfl⟩

/-- The round's relation: what has been read, and what is still to come. -/
def PartInv (w : World) (l : List Int) (a : Nat) (d : Int) (e : Bool) (v i : Value) (wr : World) : Prop :=
  ∃ (k : Nat) (acc : List Mk), k ≤ l.length ∧ i = .int .i64 k ∧ a ≤ k ∧ acc.length + a ≤ k ∧ IsM acc ∧ OwnM wr w.heap.size v acc ∧ Below w.heap.size w wr ∧
    partL d e (l.drop a) = (partL d e (l.drop k)).map fun x => (acc ++ x.1, (k - a) + x.2)

/-- A mark or two behind. -/
theorem inv_more {w w1 : World} {l : List Int} {a : Nat} {d : Int} {e : Bool} {k : Nat} {acc m : List Mk} {v' : Value} (n : Nat)
    (hk : k + n ≤ l.length) (hak : a ≤ k) (hal : acc.length + a ≤ k) (hml : m.length ≤ n) (hM : IsM acc) (hm : IsM m)
    (hp : partL d e (l.drop a) = (partL d e (l.drop k)).map fun x => (acc ++ x.1, (k - a) + x.2)) (hs : partL d e (l.drop k) = (partL d e (l.drop (k + n))).map fun x => (m ++ x.1, x.2 + n))
    (ho : OwnM w1 w.heap.size v' (acc ++ m)) (hb : Below w.heap.size w w1) : PartInv w l a d e v' (.int .i64 ((k : Int) + n)) w1 := by
  refine ⟨k + n, acc ++ m, hk, by go_num, by omega, by rw [List.length_append]; omega, isM_append _ _ hM hm, ho, hb, ?_⟩
  rw [hp, hs, Option.map_map]
  congr 1
  funext x
  simp only [Function.comp_apply, List.append_assoc, Prod.mk.injEq, true_and]
  omega

theorem two_cells (x y : Int) (p q : Bool) : (#[.int .u8 x, .bool p, .int .u8 y, .bool q] : Array Value) = (mkCells [(x, p), (y, q)]).toArray := rfl
theorem one_cells (x : Int) (p : Bool) : (#[.int .u8 x, .bool p] : Array Value) = (mkCells [(x, p)]).toArray := rfl

set_option maxHeartbeats 2000000 in
set_option maxRecDepth 100000 in
theorem part_good (w : World) (g : Nat) (l : List Int) (a : Nat) (d : Int) (e : Bool) (hd92 : ¬ (92 : Int) = d) (hd10 : ¬ (10 : Int) = d) (h : Wd w g l a) (hl40 : l.length ≤ 1099511627776) :
    Calls Try.prog 28 #[.pointer (some ⟨g, 0, none⟩), .int .u8 d, .bool e] w (PartPost w g l a d e) := by
  obtain ⟨i0, hi, hz0, hz1, hz2⟩ := info_parts infoM
  obtain ⟨ha, hl, _, h2, _⟩ := h.cells
  have hq1 : (d == 92) = false := beq_eq_false_iff_ne.2 fun e => hd92 e.symm
  have hq2 : (d == 10) = false := beq_eq_false_iff_ne.2 fun e => hd10 e.symm
  have HD92 := Lib.hid hd92
  have HD10 := Lib.hid hd10
  have hgs := h.lt
  clear hd92 hd10
  go_enter Try.func28, Try.ntmps28
  go_wp2_with fail
  refine (isWords_yes w g l a h).mono ?_
  rintro r w' ⟨rfl, rfl⟩
  obtain ⟨_, _, _, h2, _⟩ := h.cells
  go_wp2_with fail
  go_loopw [8, 9] (fun v i wr => PartInv w l a d e v i wr) (fun _ i _ => l.length - (intOf i).toNat)
  case atStart => exact ⟨a, [], ha, rfl, Nat.le_refl _, by simp, isM_nil, OwnM.nil _ _, Below.refl _ _, by simp⟩
  case round =>
    obtain ⟨k, acc, hk, rfl, hak, hal, hM, ho, rb, hp⟩ := hrel
    have hW := h.below rb
    have hG := grown_below rb (some g)
    obtain ⟨_, _, _, hc2, hf2, ad, cap, hc1, hcap, hs⟩ := hW.cells
    have HP := Lib.hid hp
    have HM := Lib.hid hM
    clear hp hM h2
    by_cases hlt : k < l.length
    · have hdr := drop_at l k hlt
      have hB := hs.1 k
      obtain ⟨b, o, rfl, hc⟩ := hs.read k hlt
      have hck := hc k hlt
      obtain ⟨hx0, hx1⟩ := hB
      have HC := Lib.hid hc
      have HS := Lib.hid hs
      clear hc hs
      by_cases hxd : l[k]?.getD 0 = d
      · have HO : Hid (partL d e (l.drop a) = some (acc, k + 1 - a)) := by
          have := HP.out
          rw [hdr, hxd, partL_d] at this
          simp only [Option.map_some, List.append_nil] at this
          rw [show k + 1 - a = k - a + 1 by omega]
          exact this
        have hS := hW.set (k + 1) hlt
        have hG2 := grown_trans hG hS.2
        have hW2 : Wd (wr.setCell ⟨g, 2, none⟩ (.int .i64 ((k : Int) + 1))) g l (a + (k + 1 - a)) := by rw [show a + (k + 1 - a) = k + 1 by omega]; exact hS.1
        have ho2 := ho.setBelow (a := ⟨g, 2, none⟩) hgs (.int .i64 ((k : Int) + 1))
        rw [hxd] at hck hx0 hx1
        clear hdr hxd hS
        go_wp2_with fail
        go_ret2
        exact part_some HO.out rfl ho2 HM.out (by omega) hW2 hG2
      · have hq3 : (l[k]?.getD 0 == d) = false := beq_eq_false_iff_ne.2 hxd
        by_cases hx10 : l[k]?.getD 0 = 10
        · have HO : Hid (partL d e (l.drop a) = none) := by
            have := HP.out
            rw [hdr, hx10, partL_nl d e _ HD10.out] at this
            exact this
          rw [hx10] at hck hx0 hx1 hq3
          clear hdr hxd hx10
          go_wp2_with fail
          go_ret2
          exact part_none HO.out rfl hW hG
        · by_cases hx92 : l[k]?.getD 0 = 92
          · rw [hx92] at hdr hck hx0 hx1 hq3
            clear hxd hx10 hx92
            by_cases hk1 : k + 1 < l.length
            · have hdr2 := drop_at l (k + 1) hk1
              have hcn := HC.out (k + 1) hk1
              obtain ⟨hy0, hy1⟩ := HS.out.1 (k + 1)
              have hq6 : (((k : Int) + 1) == (l.length : Int)) = false := by rw [beq_eq_false_iff_ne]; omega
              have hcn' : wr.cell? ⟨b, o + k + 1, none⟩ = some (.int .u8 (l[k + 1]?.getD 0)) := hcn
              by_cases hbad : l[k + 1]?.getD 0 = 10 ∧ e = false
              · obtain ⟨hb1, rfl⟩ := hbad
                have HO : Hid (partL d false (l.drop a) = none) := by
                  have := HP.out
                  rw [hdr, hdr2, partL_sln d false _ _ HD92.out ⟨hb1, rfl⟩] at this
                  exact this
                rw [hb1] at hcn hcn' hy0 hy1
                clear hdr hdr2 hb1
                go_wp2_with fail
                go_ret2
                exact part_none HO.out rfl hW hG
              · have HS0 := Lib.hid (partL_sl d e (l[k + 1]?.getD 0) (l.drop (k + 1 + 1)) HD92.out hbad)
                have hq7 : (l[k + 1]?.getD 0 == 10) = true → e = true := by
                  intro h
                  rw [beq_iff_eq] at h
                  cases e
                  · exact absurd ⟨h, rfl⟩ hbad
                  · rfl
                by_cases hcd : l[k + 1]?.getD 0 = d
                · have HS1 : Hid (partL d e (l.drop k) = (partL d e (l.drop (k + 2))).map fun x => ([(d, true)] ++ x.1, x.2 + 2)) := by
                    show _ = _
                    rw [hdr, hdr2, HS0.out, hcd]
                    simp only [if_true]
                  rw [hcd] at hcn hcn' hy0 hy1
                  clear hdr hdr2 hcd HS0 hq7 hbad
                  have hbs := rb.size
                  go_wp2_with (at_builtin; refine wpList_append_own _ rfl (.tmp 91) (.tmp 94) 22 rfl w.heap.size 30 i0 (.agg #[.int .u8 0, .bool false]) 2 2 Try.underlying22 hi hz0 hz1 hz2 rfl (by decide) _ _ _ rfl (ho.alloc _) ⟨wr.heap.size, 0, none⟩ 1 1 (mkCells [(d, true)]) rfl rfl (new_marks _ _ _ (one_cells _ _) _) (mkCells_one _) ?a3 ?a4 ?a5 ?_)
                  case a3 => unfold maxLen; omega
                  case a4 => omega
                  case a5 => simp; omega
                  intro v' w1 hown' hgrow _
                  have hR := inv_more 2 hk1 hak hal (by simp) HM.out (isM_one d true hy0 hy1) HP.out HS1.out (ownm_step rfl hown') ((rb.alloc hbs _).grown hgrow (by rw [World.size_alloc]; omega) (ho.from (Nat.le_refl _)))
                  have HR := Lib.hid hR
                  clear hR hown' hgrow ho hW hG
                  go_wp2_with fail
                  go_roundw
                  case rel => exact HR.out
                  case measure => simp [intOf]; omega
                · have hq8 : (l[k + 1]?.getD 0 == d) = false := beq_eq_false_iff_ne.2 hcd
                  have HS1 : Hid (partL d e (l.drop k) = (partL d e (l.drop (k + 2))).map fun x => ([(92, false), (l[k + 1]?.getD 0, false)] ++ x.1, x.2 + 2)) := by
                    show _ = _
                    rw [hdr, hdr2, HS0.out]
                    simp only [hcd, if_false]
                  generalize l[k + 1]?.getD 0 = y at hcn hcn' hy0 hy1 hq7 hq8 HS1
                  clear hdr hdr2 hcd HS0 hbad
                  by_cases hy10 : (y == 10) = true
                  · obtain rfl := hq7 hy10
                    clear hq7
                    have hbs := rb.size
                    go_wp2_with (at_builtin; refine wpList_append_own _ rfl (.tmp 96) (.tmp 107) 22 rfl w.heap.size 30 i0 (.agg #[.int .u8 0, .bool false]) 2 2 Try.underlying22 hi hz0 hz1 hz2 rfl (by decide) _ _ _ rfl (ho.alloc _) ⟨wr.heap.size, 0, none⟩ 2 2 (mkCells [(92, false), (y, false)]) rfl rfl (new_marks _ _ _ (two_cells _ _ _ _) _) (mkCells_one _) ?b3 ?b4 ?b5 ?_)
                    case b3 => unfold maxLen; omega
                    case b4 => omega
                    case b5 => simp; omega
                    intro v' w1 hown' hgrow _
                    have hR := inv_more 2 hk1 hak hal (by simp) HM.out (isM_append [(92, false)] [(y, false)] (isM_one 92 false (by omega) (by omega)) (isM_one y false hy0 hy1)) HP.out HS1.out (ownm_step rfl hown') ((rb.alloc hbs _).grown hgrow (by rw [World.size_alloc]; omega) (ho.from (Nat.le_refl _)))
                    have HR := Lib.hid hR
                    clear hR hown' hgrow ho hW hG
                    go_wp2_with fail
                    go_roundw
                    case rel => exact HR.out
                    case measure => simp [intOf]; omega
                  · have hy10 : (y == 10) = false := by simpa using hy10
                    clear hq7
                    have hbs := rb.size
                    go_wp2_with (at_builtin; refine wpList_append_own _ rfl (.tmp 96) (.tmp 107) 22 rfl w.heap.size 30 i0 (.agg #[.int .u8 0, .bool false]) 2 2 Try.underlying22 hi hz0 hz1 hz2 rfl (by decide) _ _ _ rfl (ho.alloc _) ⟨wr.heap.size, 0, none⟩ 2 2 (mkCells [(92, false), (y, false)]) rfl rfl (new_marks _ _ _ (two_cells _ _ _ _) _) (mkCells_one _) ?d3 ?d4 ?d5 ?_)
                    case d3 => unfold maxLen; omega
                    case d4 => omega
                    case d5 => simp; omega
                    intro v' w1 hown' hgrow _
                    have hR := inv_more 2 hk1 hak hal (by simp) HM.out (isM_append [(92, false)] [(y, false)] (isM_one 92 false (by omega) (by omega)) (isM_one y false hy0 hy1)) HP.out HS1.out (ownm_step rfl hown') ((rb.alloc hbs _).grown hgrow (by rw [World.size_alloc]; omega) (ho.from (Nat.le_refl _)))
                    have HR := Lib.hid hR
                    clear hR hown' hgrow ho hW hG
                    go_wp2_with fail
                    go_roundw
                    case rel => exact HR.out
                    case measure => simp [intOf]; omega
            · have HO : Hid (partL d e (l.drop a) = none) := by
                have := HP.out
                rw [hdr, List.drop_of_length_le (l := l) (i := k + 1) (by omega), partL_sl0 d e HD92.out] at this
                exact this
              have hq6 : (((k : Int) + 1) == (l.length : Int)) = true := by rw [beq_iff_eq]; omega
              clear hdr
              go_wp2_with fail
              go_ret2
              exact part_none HO.out rfl hW hG
          · have hq4 : (l[k]?.getD 0 == 10) = false := beq_eq_false_iff_ne.2 hx10
            have hq5 : (l[k]?.getD 0 == 92) = false := beq_eq_false_iff_ne.2 hx92
            have HS1 : Hid (partL d e (l.drop k) = (partL d e (l.drop (k + 1))).map fun x => ([(l[k]?.getD 0, false)] ++ x.1, x.2 + 1)) := by
              show _ = _
              rw [hdr, partL_else d e _ _ hxd hx10 hx92]; rfl
            generalize l[k]?.getD 0 = x at hck hx0 hx1 hq3 hq4 hq5 HS1
            clear hdr hxd hx10 hx92
            have hbs := rb.size
            go_wp2_with (at_builtin; refine wpList_append_own _ rfl _ _ 22 rfl w.heap.size 30 i0 (.agg #[.int .u8 0, .bool false]) 2 2 Try.underlying22 hi hz0 hz1 hz2 rfl (by decide) _ _ _ rfl (ho.alloc _) ⟨wr.heap.size, 0, none⟩ 1 1 (mkCells [(x, false)]) rfl rfl (new_marks _ _ _ (one_cells _ _) _) (mkCells_one _) ?c3 ?c4 ?c5 ?_)
            case c3 => unfold maxLen; omega
            case c4 => omega
            case c5 => simp; omega
            intro v' w1 hown' hgrow _
            have hR := inv_more 1 hlt hak hal (Nat.le_refl _) HM.out (isM_one x false hx0 hx1) HP.out HS1.out (ownm_step rfl hown') ((rb.alloc hbs _).grown hgrow (by rw [World.size_alloc]; omega) (ho.from (Nat.le_refl _)))
            have HR := Lib.hid hR
            clear hR hown' hgrow ho hW hG
            go_wp2_with fail
            go_roundw
            case rel => exact HR.out
            case measure => simp [intOf]; omega
    · have HO : Hid (partL d e (l.drop a) = none) := by
        have := HP.out
        rw [List.drop_of_length_le (l := l) (i := k) (by omega)] at this
        exact this
      go_wp2_with fail
      go_ret2
      exact part_none HO.out rfl hW hG
end Go.Proofs.Ytadjonggmbndmaa
