/-
  galleylaw14's works: bytes are gathered, and handed on.
-/
import Derived.Test.YtbdgolbejoheiaaCopyRows
import Derived.Test.YtbdgolbejoheiaaEqRows
namespace Go.Proofs.Ytbdgolbejoheiaa
open Go.RowKit

/-- A list of one list of bytes, just laid. -/
theorem sb_at {W' : World} {b : Nat} {l : List Int} {f : Nat × Nat} (hB : IsB l) (hl : l.length ≤ 140737488351232) (h : W'.heap[b]? = some (.cells (l.map (Value.int .u8)).toArray 5 f)) : SB W' (.slice (some ⟨b, 0, none⟩) l.length l.length) l := by
  refine ⟨hB, _, _, rfl, hl, .inr ⟨b, 0, rfl, fun i hi => ?_⟩⟩
  rw [Nat.zero_add, cell_of_row W' b i _ _ f h]
  simp [hi]
theorem rbs1 (W3 : World) (n : Nat) (l : List Int) (f : Nat × Nat) (hB : IsB l) (hl : l.length ≤ 140737488351232) (h0 : W3.heap[n]? = some (.cells (l.map (Value.int .u8)).toArray 5 f)) (h1 : W3.heap[n + 1]? = some (.cells #[.slice (some ⟨n, 0, none⟩) l.length l.length] 25 (0, 0))) : RBS W3 (fun k => n ≤ k ∧ k < W3.heap.size) (.slice (some ⟨n + 1, 0, none⟩) 1 1) [l] := by
  intro W' _ hk
  have g0 := (hk n ⟨Nat.le_refl _, (Array.getElem?_eq_some_iff.1 h0).1⟩).trans h0
  have g1 := (hk (n + 1) ⟨Nat.le_succ _, (Array.getElem?_eq_some_iff.1 h1).1⟩).trans h1
  refine ⟨_, 1, rfl, by simp, by simp, (fun e => by cases e), .inr ⟨n + 1, 0, rfl, fun i hi => ?_⟩⟩
  obtain rfl : i = 0 := by simpa using hi
  refine ⟨some ⟨n, 0, none⟩, l.length, l.length, ?_, sb_at hB hl g0, Nat.le_refl _, (fun e => by cases e)⟩
  rw [cell_of_row W' (n + 1) 0 _ _ (0, 0) g1]; rfl
theorem rbs2 (W3 : World) (n : Nat) (l r : List Int) (f f2 : Nat × Nat) (hB : IsB l) (hB2 : IsB r) (hl : l.length ≤ 140737488351232) (hr : r.length ≤ 140737488351232) (h0 : W3.heap[n]? = some (.cells (l.map (Value.int .u8)).toArray 5 f)) (h1 : W3.heap[n + 1]? = some (.cells (r.map (Value.int .u8)).toArray 5 f2))
    (h2 : W3.heap[n + 1 + 1]? = some (.cells #[.slice (some ⟨n, 0, none⟩) l.length l.length, .slice (some ⟨n + 1, 0, none⟩) r.length r.length] 25 (0, 0))) : RBS W3 (fun k => n ≤ k ∧ k < W3.heap.size) (.slice (some ⟨n + 1 + 1, 0, none⟩) 2 2) [l, r] := by
  intro W' _ hk
  have g0 := (hk n ⟨Nat.le_refl _, (Array.getElem?_eq_some_iff.1 h0).1⟩).trans h0
  have g1 := (hk (n + 1) ⟨Nat.le_succ _, (Array.getElem?_eq_some_iff.1 h1).1⟩).trans h1
  have g2 := (hk (n + 1 + 1) ⟨by omega, (Array.getElem?_eq_some_iff.1 h2).1⟩).trans h2
  refine ⟨_, 2, rfl, by simp, by simp, (fun e => by cases e), .inr ⟨n + 1 + 1, 0, rfl, fun i hi => ?_⟩⟩
  match i, hi with
  | 0, _ =>
    refine ⟨some ⟨n, 0, none⟩, l.length, l.length, ?_, sb_at hB hl g0, Nat.le_refl _, (fun e => by cases e)⟩
    rw [cell_of_row W' (n + 1 + 1) 0 _ _ (0, 0) g2]; rfl
  | 1, _ =>
    refine ⟨some ⟨n + 1, 0, none⟩, r.length, r.length, ?_, sb_at hB2 hr g1, Nat.le_refl _, (fun e => by cases e)⟩
    rw [cell_of_row W' (n + 1 + 1) 1 _ _ (0, 0) g2]; rfl
  | i + 2, hi => exact absurd hi (by simp)
theorem heap_alloc_old (w : World) (o : Obj) (k : Nat) (hk : k < w.heap.size) : (w.alloc o).heap[k]? = w.heap[k]? := ((Below.refl w.heap.size w).alloc (Nat.le_refl _) o).block k hk
theorem lay1 (w : World) (l : List Int) (f : Nat × Nat) (hB : IsB l) (hl : l.length ≤ 140737488351232) : RBS ((w.alloc (.cells (l.map (Value.int .u8)).toArray 5 f)).alloc (.cells #[.slice (some ⟨w.heap.size, 0, none⟩) l.length l.length] 25)) (fun k => w.heap.size ≤ k ∧ k < ((w.alloc (.cells (l.map (Value.int .u8)).toArray 5 f)).alloc (.cells #[.slice (some ⟨w.heap.size, 0, none⟩) l.length l.length] 25)).heap.size) (.slice (some ⟨w.heap.size + 1, 0, none⟩) 1 1) [l]
    ∧ Below w.heap.size w ((w.alloc (.cells (l.map (Value.int .u8)).toArray 5 f)).alloc (.cells #[.slice (some ⟨w.heap.size, 0, none⟩) l.length l.length] 25)) := by
  refine ⟨rbs1 _ _ _ f hB hl ?_ ?_, ((Below.refl w.heap.size w).alloc (Nat.le_refl _) _).alloc (by simp) _⟩
  · rw [heap_alloc_old _ _ _ (by simp)]; exact heap_alloc_new w _
  · rw [← World.size_alloc w (.cells (l.map (Value.int .u8)).toArray 5 f)]; exact heap_alloc_new _ _
theorem lay2 (w : World) (l r : List Int) (f : Nat × Nat) (hB : IsB l) (hB2 : IsB r) (hl : l.length ≤ 140737488351232) (hr : r.length ≤ 140737488351232) :
    ∀ W3, W3 = ((w.alloc (.cells (l.map (Value.int .u8)).toArray 5 f)).alloc (.cells (r.map (Value.int .u8)).toArray 5 f)).alloc (.cells #[.slice (some ⟨w.heap.size, 0, none⟩) l.length l.length, .slice (some ⟨w.heap.size + 1, 0, none⟩) r.length r.length] 25) →
    RBS W3 (fun k => w.heap.size ≤ k ∧ k < W3.heap.size) (.slice (some ⟨w.heap.size + 1 + 1, 0, none⟩) 2 2) [l, r] ∧ Below w.heap.size w W3 := by
  rintro _ rfl
  refine ⟨rbs2 _ _ _ _ f f hB hB2 hl hr ?_ ?_ ?_, (((Below.refl w.heap.size w).alloc (Nat.le_refl _) _).alloc (by simp) _).alloc (by simp; omega) _⟩
  · rw [heap_alloc_old _ _ _ (by simp; omega), heap_alloc_old _ _ _ (by simp)]; exact heap_alloc_new w _
  · rw [heap_alloc_old _ _ _ (by simp), ← World.size_alloc w (.cells (l.map (Value.int .u8)).toArray 5 f)]; exact heap_alloc_new _ _
  · rw [← World.size_alloc w (.cells (l.map (Value.int .u8)).toArray 5 f), ← World.size_alloc (w.alloc _) (.cells (r.map (Value.int .u8)).toArray 5 f)]; exact heap_alloc_new _ _

theorem row_cellL {w : World} {base n cap g : Nat} {e : TypeId} {us : List Value} (h : w.ownsRow base e 1 (.slice (some ⟨g, 0, none⟩) n cap) n us) (k : Nat) (hk : k < n) : w.cell? ⟨g, k, none⟩ = us[k]? := World.ownsRow.cellAt h k (by omega)
theorem own_someL {w : World} {base n : Nat} {e : TypeId} {v : Value} {us : List Value} (h : w.ownsRow base e 1 v n us) (hn : 0 < n) : ∃ g cap, v = .slice (some ⟨g, 0, none⟩) n cap ∧ n ≤ cap := by
  rcases h.2 with ⟨_, h0⟩ | ⟨g, cap, cur, rfl, _, _, hc, _⟩
  · omega
  · exact ⟨g, cap, rfl, hc⟩
/-- What is known of an output: its marks. -/
theorem om_parts {s : OSt} {g : List Int} {said : List (List Int)} {err cnt : Int} (h : omOf s = (g, said, err, cnt)) : s.g = g ∧ s.said = said ∧ s.err = err ∧ s.cnt = cnt := by
  unfold omOf at h
  simpa using h

set_option maxHeartbeats 1000000 in
theorem works_any (W : World) : Calls Try.prog 12 #[] W fun e w' => e = .returned (.bool true) ∧ Below W.heap.size W w' := by
  have hb1 := (Below.refl W.heap.size W).alloc (Nat.le_refl _) (.cells (sinkNew 0 0).toArray TSink)
  have hk1 : At (W.alloc (.cells (sinkNew 0 0).toArray TSink)) W.heap.size TSink (sinkNew 0 0) := At.new W _ _
  have HN := Lib.hid (new_yes _ W.heap.size W.heap.size 3 0 0 (by decide) hk1 hb1.size (Nat.le_refl _))
  clear hk1
  have HB1 := Lib.hid hb1
  clear hb1
  have hcv := fun (w : World) (C : Array Value) (n c g : Nat) (hg : g = w.heap.size) => Joins.run_convert_bytes_const_at (P := Try.prog) w 25 5 C n c g hg Try.underlying25 Try.underlying5
  go_enter Try.func12, Try.ntmps12
  go_wp2_with fail
  refine HN.out.mono ?_
  rintro e w1 ⟨rfl, hI, hb, hs⟩
  have hb1 : Below W.heap.size W w1 := HB1.out.trans (hb.mono HB1.out.size)
  have hbo : W.heap.size < (W.alloc (.cells (sinkNew 0 0).toArray TSink)).heap.size := by simp
  clear HN HB1 hb
  generalize (W.alloc (.cells (sinkNew 0 0).toArray TSink)).heap.size = bo at hI hs hbo ⊢
  obtain ⟨q1, q2⟩ := lay1 w1 [97, 98] (2, 3) (isB_of _ (by decide)) (by decide)
  have hI2 := hI.below (q2.mono (Nat.le_refl _))
  have hsz1 := q2.size
  have hs1 := hb1.size
  have HWr := Lib.hid (write_yes _ W.heap.size _ hI2 (by omega) _ _ _ q1 (fun k hk => ⟨hk.2, fun hm => by have := (hI.lt k (.inl hm)).1; omega⟩) (by simp [newSt]) (by simp [newSt]) (by simp [newSt]))
  have HB2 := Lib.hid (hb1.trans (q2.mono hs1))
  clear q1 q2 hI hI2 hb1 hs
  go_wp2_with fail
  refine HWr.out.mono ?_
  rintro e w2 ⟨hE, s2, hS2, hO2, hI2, hU2⟩
  have hE2 : e = .returned (.int .i64 0) := hE
  subst hE2
  clear hE
  have hM2 : writeM 3 0 0 [[97, 98]] (omOf (newSt bo W.heap.size 3 0 0)) = ([97, 98], [], 0, 0) := by rfl
  have hO2' := om_parts (hO2.trans hM2)
  have hB2 := hU2.bel _ _ HB2.out (Nat.le_refl _)
  have e1 : s2.bo = bo := hS2.bo
  have e2 : s2.bs = W.heap.size := hS2.bs
  have e3 : s2.size = 3 := hS2.size
  have e4 : s2.fail = 0 := hS2.fail
  have e5 : s2.ferr = 0 := hS2.ferr
  clear hM2 hO2 hS2 hU2 HWr HB2 hsz1
  obtain ⟨g1, g2, g3, g4⟩ := hO2'
  have htv := hI2.otv
  rw [g2] at htv
  obtain ⟨at2, ct2, et2⟩ := own_shape htv
  have c6 : w2.cell? ⟨W.heap.size, 6, none⟩ = some (.slice at2 0 ct2) := by
    have := hI2.k.cell 6
    rw [e2] at this
    rw [this]
    show some s2.tv = _
    rw [et2]; rfl
  obtain ⟨q1, q2⟩ := lay2 w2 [99] [100] (1, 2) (isB_of _ (by decide)) (isB_of _ (by decide)) (by decide) (by decide) _ rfl
  have hI3 := hI2.below (q2.mono (Nat.le_refl _))
  have hsz2 := q2.size
  have hs2 := hB2.size
  have hlt := hI2.lt
  have HWr := Lib.hid (write_yes _ W.heap.size _ hI3 (by omega) _ _ _ q1 (fun k hk => ⟨hk.2, fun hm => by have := (hlt k (.inl hm)).1; omega⟩) (by rw [g1]; decide) (by rw [g4]; decide) (by rw [g2]; decide))
  have HB3 := Lib.hid (hB2.trans (q2.mono hs2))
  rw [e1, e3, e4, e5] at HWr
  have HO : Hid (omOf s2 = ([97, 98], [], 0, 0)) := Lib.hid (by unfold omOf; rw [g1, g2, g3, g4])
  have HG := Lib.hid (And.intro e1 (And.intro e2 (And.intro e3 (And.intro e4 e5))))
  clear q1 q2 hI2 hI3 hB2 g1 g2 g3 g4 e1 e2 e3 e4 e5 htv et2 hlt
  go_wp2_with fail
  refine HWr.out.mono ?_
  rintro e w4 ⟨hE, s4, hS4, hO4, hI4, hU4⟩
  have hM4 : writeM 3 0 0 [[99], [100]] (omOf s2) = ([], [[97, 98, 99, 100]], 0, 4) := by rw [HO.out]; rfl
  rw [hM4] at hE
  subst hE
  have hO4' := om_parts (hO4.trans hM4)
  have hB4 := hU4.bel _ _ HB3.out (Nat.le_refl _)
  have e1 : s4.bo = bo := hS4.bo.trans HG.out.1
  have e2 : s4.bs = W.heap.size := hS4.bs.trans HG.out.2.1
  clear hM4 hO4 hS4 hU4 HWr HB3 hsz2 HG HO c6
  obtain ⟨g1, g2, g3, g4⟩ := hO4'
  have hsv := hI4.osv
  have hrow := hI4.row 0 (by rw [g2]; decide)
  obtain ⟨u, r1, r2, -, r4, r5⟩ := hrow
  have hu1 : s4.said[0]?.getD [] = [97, 98, 99, 100] := by rw [g2]; rfl
  rw [hu1] at r2
  obtain ⟨ad4, cc4, rfl, -, -, hsb4⟩ := r2.sbn (isB_of _ (by decide)) (by decide)
  rw [g2] at hsv
  obtain ⟨gg, cg, eg, -⟩ := own_someL hsv (by decide)
  have c0 : w4.cell? ⟨gg, 0, none⟩ = some (.slice ad4 4 cc4) := by
    rw [eg] at hsv
    exact (row_cellL hsv 0 (by decide)).trans r1
  have c5 : w4.cell? ⟨W.heap.size, 5, none⟩ = some (.slice (some ⟨gg, 0, none⟩) 1 cg) := by
    have := hI4.k.cell 5
    rw [e2] at this
    rw [this]
    show some s4.sv = _
    rw [eg]; rfl
  have hq := (Below.refl w4.heap.size w4).alloc (Nat.le_refl _) (.cells #[.int .u8 97, .int .u8 98, .int .u8 99, .int .u8 100] 5 (4, 5))
  have hnew : SB (w4.alloc (.cells #[.int .u8 97, .int .u8 98, .int .u8 99, .int .u8 100] 5 (4, 5))) (.slice (some ⟨w4.heap.size, 0, none⟩) 4 4) [97, 98, 99, 100] := SB.lit w4 5 [97, 98, 99, 100] _ (4, 5) 4 rfl rfl (by decide)
  have HE := Lib.hid (eqBytes_any _ _ _ _ _ (hsb4.below hq) hnew)
  have HC := Lib.hid (fun q => count_yes _ W.heap.size s4 ((hI4.below hq).below (below_drewN (Below.refl _ _) q)))
  have HB5 := Lib.hid (fun q => below_drewN (hB4.trans (hq.mono hB4.size)) q)
  rw [e1, g4] at HC
  clear hq hnew hI4 hB4 hsv hsb4 r1 r2 r4 r5 eg e1 e2 g1 g2 g3 g4 hu1
  go_wp2_with fail
  refine HE.out.mono ?_
  rintro e w5 ⟨rfl, q, rfl⟩
  go_wp2_with fail
  refine (HC.out q).mono ?_
  rintro e w6 ⟨rfl, rfl⟩
  go_wp2_with fail
  go_ret
  exact ⟨rfl, HB5.out q⟩
end Go.Proofs.Ytbdgolbejoheiaa
