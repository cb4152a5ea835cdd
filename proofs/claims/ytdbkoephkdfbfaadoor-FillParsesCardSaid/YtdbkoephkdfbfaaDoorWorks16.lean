/-
  galleylaw16.works: a replacement is read, and filled in.
-/
import Derived.Test.YtdbkoephkdfbfaaDoorParseF
import Derived.Test.YtdbkoephkdfbfaaDoorSigns
import Derived.Test.YtdbkoephkdfbfaaDoorLongs
namespace Go.Proofs.YtdbkoephkdfbfaaDoor
open Go.RowKit

def wmarks : List Mk := [(60, false), (92, false), (49, false), (62, false), (38, false)]
def wpieces : List Pc := [(-1, [60]), (1, []), (-1, [62]), (0, [])]
theorem parsed {w w' : World} {l : List Mk} {q : List Pc} {e : Ending} (hP : ParsePost w l e w') (h : parseR l [] [] = some q) :
    Below w.heap.size w w' ∧ ∃ v L, e = .returned (.tuple #[v, .int .i64 0, .int .i64 0]) ∧ OwnPs w' (w.heap.size + 2) v L ∧ plainP L = q ∧ L.length ≤ 2 * l.length + 2 ∧ ∀ y ∈ q, goodP y l.length := by
  unfold ParsePost at hP
  rw [h] at hP
  exact hP
theorem unparsed {w w' : World} {l : List Mk} {e : Ending} (hP : ParsePost w l e w') (h : parseR l [] [] = none) :
    Below w.heap.size w w' ∧ e = .returned (.tuple #[.slice none 0 0, .int .i64 61, .int .i64 ((l.length : Int) - 1)]) := by
  unfold ParsePost at hP
  rw [h] at hP
  exact hP
/-- What was parsed, read. -/
theorem OwnPs.psg {w : World} {base : Nat} {v : Value} {L : List PcV} {n : Nat} (h : OwnPs w base v L) (hG : ∀ y ∈ plainP L, goodP y n) (hn : n ≤ 2147483648) (hl : L.length ≤ 4398046510976) : ∃ a c, v = .slice a L.length c ∧ PS w (.slice a L.length c) (plainP L) := by
  obtain ⟨a, c, rfl⟩ : ∃ a c, v = .slice a L.length c := by
    rcases h.own.2 with ⟨rfl, hn⟩ | ⟨g, cap, cur, rfl, _⟩
    · exact ⟨none, 0, by rw [hn]⟩
    · exact ⟨_, _, rfl⟩
  refine ⟨a, c, rfl, h.ps (fun x hx => ?_) hl⟩
  have := hG (x.1, x.2.2) (List.mem_map.2 ⟨x, hx, rfl⟩)
  exact ⟨this.1, this.2.1, Nat.le_trans this.2.2 (by omega)⟩

theorem wspans (w : World) : NS (w.alloc (.cells #[.int .i64 0, .int .i64 3, .int .i64 1, .int .i64 2] 118)) (.slice (some ⟨w.heap.size, 0, none⟩) 2 2) [(0, 3), (1, 2)] := by
  have hb := heap_alloc_new w (.cells #[.int .i64 0, .int .i64 3, .int .i64 1, .int .i64 2] 118)
  refine ⟨fun i => ?_, _, 2, rfl, by decide, Nat.le_refl _, .inr ⟨w.heap.size, 0, rfl, fun i hi => ?_⟩⟩
  · match i with
    | 0 => simp [IsI]
    | 1 => simp [IsI]
    | i + 2 => simp [IsI]
  · match i, hi with
    | 0, _ => exact ⟨by rw [cell_of_row _ _ _ _ _ (0, 0) hb]; rfl, by rw [cell_of_row _ _ _ _ _ (0, 0) hb]; rfl⟩
    | 1, _ => exact ⟨by rw [cell_of_row _ _ _ _ _ (0, 0) hb]; rfl, by rw [cell_of_row _ _ _ _ _ (0, 0) hb]; rfl⟩

set_option maxHeartbeats 2000000 in
set_option maxRecDepth 100000 in
theorem works_any (w : World) : Calls Tryd.prog 27 #[] w fun e w' => e = .returned (.bool true) ∧ Below w.heap.size w w' := by
  have hcv := fun (w : World) (C : Array Value) (n c g : Nat) (hg : g = w.heap.size) => Joins.run_convert_bytes_const_at (P := Tryd.prog) w 48 5 C n c g hg Tryd.underlying48 Tryd.underlying5
  go_enter Tryd.func27, Tryd.ntmps27
  go_wp2_with fail
  refine (signs_any w ⟨#[60, 92, 49, 62, 38]⟩ (by decide)).mono ?_
  rintro e w1 ⟨v1, rfl, o1, b1⟩
  have o1 : OwnM w1 w.heap.size v1 wmarks := o1
  have s1 := o1.sm (show IsM wmarks from fun i => by
    match i with
    | 0 | 1 | 2 | 3 | 4 => simp [wmarks]
    | i + 5 => simp [wmarks]) (by decide)
  obtain ⟨-, a1, c1, rfl, -⟩ := id s1
  clear o1
  go_wp2_with fail
  refine (parse_any w1 a1 _ c1 wmarks s1 (by decide)).mono ?_
  intro e w2 hP
  obtain ⟨b2, v2, L, rfl, o2, hL, hLl, hG⟩ := parsed hP (show parseR wmarks [] [] = some wpieces from rfl)
  rw [← hL] at hG
  obtain ⟨a2, c2, rfl, p2⟩ := o2.psg hG (by decide) (by have : wmarks.length = 5 := rfl; omega)
  rw [hL] at p2
  have hLn : L.length = 4 := by rw [← plainP_len, hL]; rfl
  have b02 := b1.trans (b2.mono b1.size)
  rw [hLn] at p2 ⊢
  clear hP hG hL o2 hLl b1 b2 s1
  have t2 := SB.lit w2 5 [97, 98, 99] (row [97, 98, 99]) (3, 4) 3 rfl rfl (by decide)
  have b3 := (Below.refl w2.heap.size w2).alloc (Nat.le_refl _) (.cells (row [97, 98, 99]) 5 (3, 4))
  have n2 := wspans (w2.alloc (.cells (row [97, 98, 99]) 5 (3, 4)))
  have b4 := (Below.refl _ (w2.alloc (.cells (row [97, 98, 99]) 5 (3, 4)))).alloc (Nat.le_refl _) (.cells #[.int .i64 0, .int .i64 3, .int .i64 1, .int .i64 2] 118)
  rw [World.size_alloc] at n2
  have HE := Lib.hid (expand_any _ a2 4 c2 wpieces ((p2.below b3).below b4) _ 3 3 [97, 98, 99] (t2.below b4) (fun h => by cases h) (Nat.le_refl _) _ 2 2 [(0, 3), (1, 2)] n2 (by decide))
  have b04 := b02.trans ((b3.trans (b4.mono b3.size)).mono b02.size)
  have hs4 := b04.size
  clear b3 b4 t2 n2 p2 b02
  go_wp2_with fail
  refine HE.out.mono ?_
  rintro e w5 ⟨v5, rfl, o5, b5⟩
  have o5 : OwnB w5 _ v5 [60, 98, 62, 97, 98, 99] := o5
  obtain ⟨a5, c5, rfl, -, -, s5⟩ := o5.sbn (isB_of _ (by decide)) (by decide)
  have hst : strOf [60, 98, 62, 97, 98, 99] = ⟨#[60, 98, 62, 97, 98, 99]⟩ := by decide
  have hrun : (convert 48 9 (.slice a5 6 c5)).run Tryd.prog w5 = .ok (.string (strOf [60, 98, 62, 97, 98, 99])) w5 := run_str w5 a5 _ c5 _ s5
  rw [hst] at hrun
  have b05 := b04.trans (b5.mono hs4)
  clear HE o5 s5 b5 hst
  go_wp2_with fail
  go_ret
  exact ⟨rfl, b05⟩
end Go.Proofs.YtdbkoephkdfbfaaDoor
