/-
  OptsPrints: its walk.
-/
import Derived.Test.YtgepjjpcokbpjaaDoorOptsA
import Derived.Test.YtgepjjpcokbpjaaDoorBagTxG
import Derived.Test.YtgepjjpcokbpjaaDoorRefPO
import Derived.Test.YtgepjjpcokbpjaaDoorOptW
namespace Go.Proofs.YtgepjjpcokbpjaaDoor
open Go.RowKit

theorem apart_own {w : World} {base s n : Nat} {e : TypeId} {u v : Value} {xs : List Value} (h : w.ownsRow base e s v n xs) (hu : ∀ k, u.ownBlock = some k → k < base) : Apart u v := fun k h1 h2 => by
  have := (World.ownsRow.lt h k h2).1
  have := hu k h1
  omega
theorem OwnT.below {w w' : World} {base : Nat} {v : Value} {l : List Str} (h : OwnT w base v l) (hb : Below w.heap.size w w') : OwnT w' base v l := own_belowT h hb
theorem OwnT.mono {w : World} {base base' : Nat} {v : Value} {l : List Str} (h : OwnT w base v l) (hb : base' ≤ base) : OwnT w base' v l :=
  ⟨h.1, h.2.imp_right fun ⟨g, cap, cur, e, hg, r⟩ => ⟨g, cap, cur, e, by omega, r⟩⟩
theorem OwnT.top {w : World} {base : Nat} {v : Value} {l : List Str} (h : OwnT w base v l) {B : Nat} (hB : w.heap.size ≤ B) : ∀ k, v.ownBlock = some k → k < B := fun k hk => by
  have := (World.ownsRow.lt h k hk).2
  omega
theorem OwnT.far {w : World} {base g : Nat} {v : Value} {l : List Str} (h : OwnT w base v l) (hg : g < base) : v.ownBlock ≠ some g := fun e => by
  have := (World.ownsRow.lt h g e).1
  omega
/-- What is held: both options, three lines. -/
structure OP (w W : World) (b1 b2 g1 g2 : Nat) (cs1 cs2 : Array Value) (parts : List Prt) (m : List Str) (v5 v6 v7 : Value) (L5 L6 L7 : List Str) : Prop where
  x1 : W.heap[b1]? = some (.cells cs1 TOpt (0, 0))
  x2 : W.heap[b2]? = some (.cells cs2 TOpt (0, 0))
  p : ArrPt W g1 (widePt parts)
  f : ArrT W g2 m
  o5 : OwnT W w.heap.size v5 L5
  o6 : OwnT W w.heap.size v6 L6
  o7 : OwnT W w.heap.size v7 L7
  n5 : v5.ownBlock ≠ some g2
  n6 : v6.ownBlock ≠ some g2
  n7 : v7.ownBlock ≠ some g2
  a56 : Apart v5 v6
  lo : w.heap.size ≤ g2
  ne : b1 ≠ g2 ∧ b2 ≠ g2 ∧ g1 ≠ g2
  bel : Below w.heap.size w W
section
variable {w W W' : World} {b1 b2 g1 g2 : Nat} {cs1 cs2 : Array Value} {parts : List Prt} {m : List Str} {v5 v6 v7 : Value} {L5 L6 L7 : List Str}
theorem OP.below (h : OP w W b1 b2 g1 g2 cs1 cs2 parts m v5 v6 v7 L5 L6 L7) (hb : Below W.heap.size W W') : OP w W' b1 b2 g1 g2 cs1 cs2 parts m v5 v6 v7 L5 L6 L7 :=
  { h with
    x1 := (hb.block _ (Array.getElem?_eq_some_iff.1 h.x1).1).trans h.x1
    x2 := (hb.block _ (Array.getElem?_eq_some_iff.1 h.x2).1).trans h.x2
    p := h.p.below hb, f := h.f.below hb, o5 := h.o5.below hb, o6 := h.o6.below hb, o7 := h.o7.below hb, bel := h.bel.trans (hb.mono h.bel.size) }
theorem OP.store (h : OP w W b1 b2 g1 g2 cs1 cs2 parts m v5 v6 v7 L5 L6 L7) (k : Nat) (x : Str) : OP w (W.setCell ⟨g2, k, none⟩ (.string x)) b1 b2 g1 g2 cs1 cs2 parts (m.set k x) v5 v6 v7 L5 L6 L7 :=
  { h with
    x1 := (heap_setCell_other W ⟨g2, k, none⟩ b1 _ (by have := h.ne.1; simpa using this)).trans h.x1
    x2 := (heap_setCell_other W ⟨g2, k, none⟩ b2 _ (by have := h.ne.2.1; simpa using this)).trans h.x2
    p := (heap_setCell_other W ⟨g2, k, none⟩ g1 _ (by have := h.ne.2.2; simpa using this)).trans h.p
    f := h.f.set k x
    o5 := ownsRow_setCell_other h.o5 h.n5 _
    o6 := ownsRow_setCell_other h.o6 h.n6 _
    o7 := ownsRow_setCell_other h.o7 h.n7 _
    bel := h.bel.setCell (p := ⟨g2, k, none⟩) h.lo _ }
end
/-- What a Print hands back, n lines of it. -/
def PrintNPost (w : World) (L : List Str) (n : Nat) (e : Ending) (w' : World) : Prop := ∃ a c, e = .returned (.slice a n c) ∧ OwnT w' w.heap.size (.slice a n c) L ∧ Below w.heap.size w w'
theorem print_n {w w' : World} {L : List Str} {n : Nat} {e : Ending} (h : PrintOPost w L e w') (hn : L.length = n) : PrintNPost w L n e w' := by
  subst hn; exact h
theorem print_len (o : Opt) (N M : Nat) (hp : o.parts.length ≤ N) (hf : o.files.length ≤ M) : (printR o).length ≤ 2 * N + M + 5 := by
  unfold printR
  split
  · unfold printL
    have h1 : ∀ (b : Bool) l, (flagW b l).length ≤ 1 := fun b l => by cases b <;> simp [flagW]
    have q1 := h1 o.q [45, 110]
    have q2 := h1 o.e [45, 69]
    have q3 := h1 (o.a && !o.i) [45, 115]
    have q4 := h1 o.i [45, 105]
    simp only [List.length_append, partW_len, List.length_singleton]
    omega
  · simp

set_option maxHeartbeats 4000000 in
set_option maxRecDepth 100000 in
theorem printsLaw_any (w : World) (hw : TabW w) (o : Opt) (ap : Option Addr) (np cp : Nat) (sp : PT w (.slice ap np cp) o.parts) (af : Option Addr) (nf cf : Nat) (sf : TS w (.slice af nf cf) o.files) :
    Calls Tryd.prog 4 #[optV o (.slice ap np cp) (.slice af nf cf)] w fun r w' => r = .returned (.bool true) ∧ Below w.heap.size w w' := by
  obtain ⟨q, e, a, i, parts, files⟩ := o
  simp only at sp sf
  obtain ⟨hpl, hpn, -, -⟩ := sp.len
  obtain ⟨hfl, hfn, -, -⟩ := sf.len
  have HTW := Lib.hid hw
  have HSP := Lib.hid sp
  have HSF := Lib.hid sf
  have HPL := Lib.hid hpl
  have HFL := Lib.hid hfl
  clear hw sp sf hpl hfl
  unfold optV
  go_enter Tryd.func4, Tryd.ntmps4
  have HB1 := Lib.hid ((Below.refl w.heap.size w).alloc (Nat.le_refl _) (.cells #[.bool q, .bool e, .bool a, .bool i, .slice ap np cp, .slice af nf cf] TOpt))
  have HX1 := Lib.hid (heap_alloc_new w (.cells #[.bool q, .bool e, .bool a, .bool i, .slice ap np cp, .slice af nf cf] TOpt))
  go_upto_region 1 with fail
  generalize w.alloc (.cells #[.bool q, .bool e, .bool a, .bool i, .slice ap np cp, .slice af nf cf] TOpt) = w1 at HB1 HX1 ⊢
  obtain ⟨b1, hb1⟩ : ∃ b1, w.heap.size = b1 := ⟨_, rfl⟩
  have HBE := Lib.hid hb1
  rw [hb1] at HX1 ⊢
  clear hb1
  have HWK := Lib.hid (works28_any w1)
  go_wp2_with (go_at_call 6; refine HWK.out.mono ?_)
  rintro r w2 ⟨rfl, b2⟩
  have HB2 := Lib.hid (HB1.out.trans (b2.mono HB1.out.size))
  have HX2 := Lib.hid ((b2.block b1 (Array.getElem?_eq_some_iff.1 HX1.out).1).trans HX1.out)
  clear b2 HWK HB1 HX1
  have c0 : w2.cell? ⟨b1, 0, none⟩ = some (.bool q) := Lib.cell_of_heap HX2.out 0
  have c1 : w2.cell? ⟨b1, 1, none⟩ = some (.bool e) := Lib.cell_of_heap HX2.out 1
  have c2 : w2.cell? ⟨b1, 2, none⟩ = some (.bool a) := Lib.cell_of_heap HX2.out 2
  have c3 : w2.cell? ⟨b1, 3, none⟩ = some (.bool i) := Lib.cell_of_heap HX2.out 3
  have c4 : w2.cell? ⟨b1, 4, none⟩ = some (.slice ap np cp) := Lib.cell_of_heap HX2.out 4
  have c5 : w2.cell? ⟨b1, 5, none⟩ = some (.slice af nf cf) := Lib.cell_of_heap HX2.out 5
  by_cases hbig : 1048576 < np + nf
  · have hd : decide ((1048576 : Int) < (np : Int) + (nf : Int)) = true := decide_eq_true (by omega)
    go_wp2_with fail
    go_ret
    exact ⟨rfl, HB2.out⟩
  · have hd : decide ((1048576 : Int) < (np : Int) + (nf : Int)) = false := decide_eq_false (by omega)
    have hwd := wideO_any w2 (HTW.out.below HB2.out) ⟨q, e, a, i, parts, files⟩ ap np cp (HSP.out.below HB2.out) af nf cf (HSF.out.below HB2.out)
    unfold WideOPost optV at hwd
    have HWD := Lib.hid hwd
    clear hwd
    go_upto_region 4 with fail
    go_wp2_with (go_at_call 17; refine HWD.out.mono ?_)
    rintro r w3 ⟨g1, g2, rfl, hwo⟩
    have HWO := Lib.hid hwo
    have HX3 := Lib.hid ((hwo.bel.block b1 (Array.getElem?_eq_some_iff.1 HX2.out).1).trans HX2.out)
    have HB3 := Lib.hid (HB2.out.trans (hwo.bel.mono HB2.out.size))
    clear hwo HWD c0 c1 c2 c3 c4 c5
    have HALL := Lib.hid ((Below.refl w3.heap.size w3).alloc (Nat.le_refl _) (.cells zOpt TOpt))
    have HN3 := Lib.hid (heap_alloc_new w3 (.cells zOpt TOpt))
    unfold zOpt at HALL HN3
    go_upto_region 5 with (refine wpList_store_row rfl TOpt (.tmp 4) (.tmp 22) rfl rfl w3.heap.size TOpt _ #[.bool q, .bool e, .bool a, .bool i, .slice (some ⟨g1, 0, none⟩) np (np + 64), .slice (some ⟨g2, 0, none⟩) nf (nf + 64)] rfl rfl HN3.out rfl infoO (by simp [Value.oneCell']) ?_)
    have HB4 : Hid (Below w3.heap.size w3 ((w3.alloc (.cells #[.bool false, .bool false, .bool false, .bool false, .slice none 0 0, .slice none 0 0] TOpt)).setRow w3.heap.size #[.bool q, .bool e, .bool a, .bool i, .slice (some ⟨g1, 0, none⟩) np (np + 64), .slice (some ⟨g2, 0, none⟩) nf (nf + 64)])) := Lib.hid (below_setRow HALL.out (Nat.le_refl _) _)
    have HN4 : Hid (((w3.alloc (.cells #[.bool false, .bool false, .bool false, .bool false, .slice none 0 0, .slice none 0 0] TOpt)).setRow w3.heap.size #[.bool q, .bool e, .bool a, .bool i, .slice (some ⟨g1, 0, none⟩) np (np + 64), .slice (some ⟨g2, 0, none⟩) nf (nf + 64)]).heap[w3.heap.size]? = some (.cells #[.bool q, .bool e, .bool a, .bool i, .slice (some ⟨g1, 0, none⟩) np (np + 64), .slice (some ⟨g2, 0, none⟩) nf (nf + 64)] TOpt (0, 0))) := Lib.hid (setRow_heap _ _ _ _ _ _ HN3.out)
    clear HALL HN3
    generalize (w3.alloc (.cells #[.bool false, .bool false, .bool false, .bool false, .slice none 0 0, .slice none 0 0] TOpt)).setRow w3.heap.size #[.bool q, .bool e, .bool a, .bool i, .slice (some ⟨g1, 0, none⟩) np (np + 64), .slice (some ⟨g2, 0, none⟩) nf (nf + 64)] = w4 at HB4 HN4 ⊢
    have HLT : Hid (b1 < w3.heap.size ∧ g1 < w3.heap.size ∧ g2 < w3.heap.size ∧ b1 < w2.heap.size) := Lib.hid ⟨(Array.getElem?_eq_some_iff.1 HX3.out).1, HWO.out.p.lt, HWO.out.f.lt, (Array.getElem?_eq_some_iff.1 HX2.out).1⟩
    obtain ⟨b2, hb2⟩ : ∃ b2, w3.heap.size = b2 := ⟨_, rfl⟩
    have HX4 := Lib.hid ((HB4.out.block b1 HLT.out.1).trans HX3.out)
    have HP4 := Lib.hid (HWO.out.p.below HB4.out)
    have HF4 := Lib.hid (HWO.out.f.below HB4.out)
    have HB5 := Lib.hid (HB3.out.trans (HB4.out.mono HB3.out.size))
    have HSZ : Hid (w3.heap.size ≤ w4.heap.size ∧ w.heap.size ≤ w2.heap.size) := Lib.hid ⟨HB4.out.size, HB2.out.size⟩
    have HNE : Hid (w.heap.size ≤ g2 ∧ b1 ≠ g2 ∧ b2 ≠ g2 ∧ g1 ≠ g2 ∧ g2 < w4.heap.size) := Lib.hid (by
      have h1 := HWO.out.l2
      have h2 := HLT.out
      have h3 := HSZ.out
      exact ⟨by omega, by omega, by omega, HWO.out.ne, by omega⟩)
    rw [hb2] at HN4 ⊢
    clear HWO HX3 HB3 HB4 hb2 HLT HX2 HB2 HSZ
    have HPT4 : Hid (PT w4 (.slice (some ⟨g1, 0, none⟩) np (np + 64)) parts) := Lib.hid (by
      have := HP4.out.pt (m := marksPt parts.length) (by rw [HPL.out]; omega) (np + 64) (by rw [HPL.out]; omega)
      rw [HPL.out] at this
      exact this)
    have HTS4 : Hid (TS w4 (.slice (some ⟨g2, 0, none⟩) nf (nf + 64)) files) := Lib.hid (by
      have := HF4.out.ts (m := marksT files.length) (by rw [HFL.out]; omega) (nf + 64) (by rw [HFL.out]; omega)
      rw [HFL.out] at this
      exact this)
    have hll := print_len ⟨q, e, a, i, parts, files⟩ np nf (by rw [HPL.out]; exact Nat.le_refl _) (by rw [HFL.out]; exact Nat.le_refl _)
    obtain ⟨L, hL⟩ : ∃ L, printR ⟨q, e, a, i, parts, files⟩ = L := ⟨_, rfl⟩
    obtain ⟨ln, hln⟩ : ∃ ln, L.length = ln := ⟨_, rfl⟩
    have HPR : Hid (∀ W, Below w4.heap.size w4 W → Calls Tryd.prog 18 #[.agg #[.bool q, .bool e, .bool a, .bool i, .slice (some ⟨g1, 0, none⟩) np (np + 64), .slice (some ⟨g2, 0, none⟩) nf (nf + 64)]] W (PrintNPost W L ln)) := Lib.hid fun W hb => (printO_any W ⟨q, e, a, i, parts, files⟩ _ np _ (HPT4.out.below hb) _ nf _ (HTS4.out.below hb) (by omega) (by omega)).mono fun _ _ h => print_n (by rw [← hL]; exact h) hln
    have HRP : Hid (∀ W, Below w4.heap.size w4 W → Calls Tryd.prog 19 #[.agg #[.bool q, .bool e, .bool a, .bool i, .slice ap np cp, .slice af nf cf]] W (PrintNPost W L ln)) := Lib.hid fun W hb => (refPrintO_any W ⟨q, e, a, i, parts, files⟩ ap np cp (HSP.out.below (HB5.out.trans (hb.mono HB5.out.size))) af nf cf (HSF.out.below (HB5.out.trans (hb.mono HB5.out.size))) (by omega) (by omega)).mono fun _ _ h => print_n (by rw [← hL]; exact h) hln
    rw [hL] at hll
    clear hL
    have HLN := Lib.hid hln
    rw [hln] at hll
    clear hln
    have d0 : w4.cell? ⟨b2, 0, none⟩ = some (.bool q) := Lib.cell_of_heap HN4.out 0
    have d1 : w4.cell? ⟨b2, 1, none⟩ = some (.bool e) := Lib.cell_of_heap HN4.out 1
    have d2 : w4.cell? ⟨b2, 2, none⟩ = some (.bool a) := Lib.cell_of_heap HN4.out 2
    have d3 : w4.cell? ⟨b2, 3, none⟩ = some (.bool i) := Lib.cell_of_heap HN4.out 3
    have d4 : w4.cell? ⟨b2, 4, none⟩ = some (.slice (some ⟨g1, 0, none⟩) np (np + 64)) := Lib.cell_of_heap HN4.out 4
    have d5 : w4.cell? ⟨b2, 5, none⟩ = some (.slice (some ⟨g2, 0, none⟩) nf (nf + 64)) := Lib.cell_of_heap HN4.out 5
    go_wp2_with (go_at_call 18; refine (HPR.out w4 (Below.refl _ _)).mono ?_)
    rintro r w5 ⟨a5, k5, rfl, o5, bb5⟩
    have HO5 := Lib.hid o5
    have HBX5 := Lib.hid bb5
    have HN5 := Lib.hid ((bb5.block b2 (Array.getElem?_eq_some_iff.1 HN4.out).1).trans HN4.out)
    clear o5 bb5 d0 d1 d2 d3 d4 d5
    have d0 : w5.cell? ⟨b2, 0, none⟩ = some (.bool q) := Lib.cell_of_heap HN5.out 0
    have d1 : w5.cell? ⟨b2, 1, none⟩ = some (.bool e) := Lib.cell_of_heap HN5.out 1
    have d2 : w5.cell? ⟨b2, 2, none⟩ = some (.bool a) := Lib.cell_of_heap HN5.out 2
    have d3 : w5.cell? ⟨b2, 3, none⟩ = some (.bool i) := Lib.cell_of_heap HN5.out 3
    have d4 : w5.cell? ⟨b2, 4, none⟩ = some (.slice (some ⟨g1, 0, none⟩) np (np + 64)) := Lib.cell_of_heap HN5.out 4
    have d5 : w5.cell? ⟨b2, 5, none⟩ = some (.slice (some ⟨g2, 0, none⟩) nf (nf + 64)) := Lib.cell_of_heap HN5.out 5
    go_wp2_with (go_at_call 18; refine (HPR.out w5 HBX5.out).mono ?_)
    rintro r w6 ⟨a6, k6, rfl, o6, bb6⟩
    have HO6 := Lib.hid o6
    have HO56 := Lib.hid (HO5.out.below bb6)
    have HA56 : Hid (Apart (.slice a5 ln k5) (.slice a6 ln k6)) := Lib.hid (apart_own o6 (HO5.out.top (Nat.le_refl _)))
    have HBX6 := Lib.hid (HBX5.out.trans (bb6.mono HBX5.out.size))
    have HX6 := Lib.hid ((HBX6.out.block b1 (Array.getElem?_eq_some_iff.1 HX4.out).1).trans HX4.out)
    have HN6 := Lib.hid ((HBX6.out.block b2 (Array.getElem?_eq_some_iff.1 HN4.out).1).trans HN4.out)
    have HSZ56 : Hid (w4.heap.size ≤ w5.heap.size) := Lib.hid HBX5.out.size
    clear o6 bb6 d0 d1 d2 d3 d4 d5
    have c0 : w6.cell? ⟨b1, 0, none⟩ = some (.bool q) := Lib.cell_of_heap HX6.out 0
    have c1 : w6.cell? ⟨b1, 1, none⟩ = some (.bool e) := Lib.cell_of_heap HX6.out 1
    have c2 : w6.cell? ⟨b1, 2, none⟩ = some (.bool a) := Lib.cell_of_heap HX6.out 2
    have c3 : w6.cell? ⟨b1, 3, none⟩ = some (.bool i) := Lib.cell_of_heap HX6.out 3
    have c4 : w6.cell? ⟨b1, 4, none⟩ = some (.slice ap np cp) := Lib.cell_of_heap HX6.out 4
    have c5 : w6.cell? ⟨b1, 5, none⟩ = some (.slice af nf cf) := Lib.cell_of_heap HX6.out 5
    go_wp2_with (go_at_call 19; refine (HRP.out w6 HBX6.out).mono ?_)
    rintro r w7 ⟨a7, k7, rfl, o7, bb7⟩
    have HBX7 := Lib.hid (HBX6.out.trans (bb7.mono HBX6.out.size))
    have HOP : Hid (OP w w7 b1 b2 g1 g2 #[.bool q, .bool e, .bool a, .bool i, .slice ap np cp, .slice af nf cf] #[.bool q, .bool e, .bool a, .bool i, .slice (some ⟨g1, 0, none⟩) np (np + 64), .slice (some ⟨g2, 0, none⟩) nf (nf + 64)] parts (wideT files) (.slice a5 ln k5) (.slice a6 ln k6) (.slice a7 ln k7) L L L) := Lib.hid (by
      have hz := HB5.out.size
      have hz2 := HSZ56.out
      have hz3 := HBX6.out.size
      have hne := HNE.out
      exact ⟨(bb7.block b1 (Array.getElem?_eq_some_iff.1 HX6.out).1).trans HX6.out, (bb7.block b2 (Array.getElem?_eq_some_iff.1 HN6.out).1).trans HN6.out, HP4.out.below HBX7.out, HF4.out.below HBX7.out,
        (HO56.out.below bb7).mono hz, (HO6.out.below bb7).mono (by omega), o7.mono (by omega), HO5.out.far hne.2.2.2.2, HO6.out.far (by omega), o7.far (by omega), HA56.out, hne.1, ⟨hne.2.1, hne.2.2.1, hne.2.2.2.1⟩, HB5.out.trans (HBX7.out.mono hz)⟩)
    have HPT7 := Lib.hid (HPT4.out.below HBX7.out)
    have HTS7 := Lib.hid (HTS4.out.below HBX7.out)
    clear o7 bb7 c0 c1 c2 c3 c4 c5 HBX5 HBX6 HBX7 HX6 HN6 HN5 HN4 HX4 HP4 HF4 HO5 HO6 HO56 HA56 HSZ56 HPT4 HTS4 HPR HRP HB5 HNE
    have HX7 := Lib.hid HOP.out.x1
    have HN7 := Lib.hid HOP.out.x2
    have HW7 : Hid (∀ W, Below w7.heap.size w7 W → Below w.heap.size w W) := Lib.hid fun W hb => HOP.out.bel.trans (hb.mono HOP.out.bel.size)
    have HEQ := Lib.hid (eqOptions_same w7 q e a i parts files _ np _ HPT7.out _ nf _ HTS7.out ap np cp (HSP.out.below HOP.out.bel) af nf cf (HSF.out.below HOP.out.bel))
    have c0 : w7.cell? ⟨b1, 0, none⟩ = some (.bool q) := Lib.cell_of_heap HX7.out 0
    have c1 : w7.cell? ⟨b1, 1, none⟩ = some (.bool e) := Lib.cell_of_heap HX7.out 1
    have c2 : w7.cell? ⟨b1, 2, none⟩ = some (.bool a) := Lib.cell_of_heap HX7.out 2
    have c3 : w7.cell? ⟨b1, 3, none⟩ = some (.bool i) := Lib.cell_of_heap HX7.out 3
    have c4 : w7.cell? ⟨b1, 4, none⟩ = some (.slice ap np cp) := Lib.cell_of_heap HX7.out 4
    have c5 : w7.cell? ⟨b1, 5, none⟩ = some (.slice af nf cf) := Lib.cell_of_heap HX7.out 5
    have d0 : w7.cell? ⟨b2, 0, none⟩ = some (.bool q) := Lib.cell_of_heap HN7.out 0
    have d1 : w7.cell? ⟨b2, 1, none⟩ = some (.bool e) := Lib.cell_of_heap HN7.out 1
    have d2 : w7.cell? ⟨b2, 2, none⟩ = some (.bool a) := Lib.cell_of_heap HN7.out 2
    have d3 : w7.cell? ⟨b2, 3, none⟩ = some (.bool i) := Lib.cell_of_heap HN7.out 3
    have d4 : w7.cell? ⟨b2, 4, none⟩ = some (.slice (some ⟨g1, 0, none⟩) np (np + 64)) := Lib.cell_of_heap HN7.out 4
    have d5 : w7.cell? ⟨b2, 5, none⟩ = some (.slice (some ⟨g2, 0, none⟩) nf (nf + 64)) := Lib.cell_of_heap HN7.out 5
    go_wp2_with (go_at_call 13; refine HEQ.out.mono ?_)
    rintro r w8 ⟨rfl, bb8⟩
    have HOP8 := Lib.hid (HOP.out.below bb8)
    have HN8 := Lib.hid HOP8.out.x2
    have HSO := Lib.hid (spareO_any w8 (HTW.out.below HOP8.out.bel) ⟨q, e, a, i, parts, files⟩ q e a i g1 g2 np nf HPL.out HFL.out hpn hfn HOP8.out.p HOP8.out.f)
    clear c0 c1 c2 c3 c4 c5 d0 d1 d2 d3 d4 d5 bb8 HEQ HOP HX7 HN7 HPT7 HTS7 HW7
    have d0 : w8.cell? ⟨b2, 0, none⟩ = some (.bool q) := Lib.cell_of_heap HN8.out 0
    have d1 : w8.cell? ⟨b2, 1, none⟩ = some (.bool e) := Lib.cell_of_heap HN8.out 1
    have d2 : w8.cell? ⟨b2, 2, none⟩ = some (.bool a) := Lib.cell_of_heap HN8.out 2
    have d3 : w8.cell? ⟨b2, 3, none⟩ = some (.bool i) := Lib.cell_of_heap HN8.out 3
    have d4 : w8.cell? ⟨b2, 4, none⟩ = some (.slice (some ⟨g1, 0, none⟩) np (np + 64)) := Lib.cell_of_heap HN8.out 4
    have d5 : w8.cell? ⟨b2, 5, none⟩ = some (.slice (some ⟨g2, 0, none⟩) nf (nf + 64)) := Lib.cell_of_heap HN8.out 5
    go_wp2_with (go_at_call 20; refine HSO.out.mono ?_)
    rintro r w9 ⟨rfl, bb9⟩
    have HOP9 := Lib.hid (HOP8.out.below bb9)
    clear d0 d1 d2 d3 d4 d5 bb9 HSO HOP8 HN8
    have hlb : ln ≤ 8796093021952 := by omega
    have HT5 : Hid (∀ W v5 v6 v7 m, OP w W b1 b2 g1 g2 #[.bool q, .bool e, .bool a, .bool i, .slice ap np cp, .slice af nf cf] #[.bool q, .bool e, .bool a, .bool i, .slice (some ⟨g1, 0, none⟩) np (np + 64), .slice (some ⟨g2, 0, none⟩) nf (nf + 64)] parts m v5 v6 v7 L L L → TS W v5 L ∧ TS W v6 L ∧ TS W v7 L) := Lib.hid fun W v5 v6 v7 m h => ⟨h.o5.ts (by rw [HLN.out]; exact hlb), h.o6.ts (by rw [HLN.out]; exact hlb), h.o7.ts (by rw [HLN.out]; exact hlb)⟩
    have HE1 := Lib.hid (eqTexts_same w9 a5 ln k5 L (HT5.out _ _ _ _ _ HOP9.out).1 a7 ln k7 (HT5.out _ _ _ _ _ HOP9.out).2.2)
    go_upto_region 9 with fail
    go_wp2_with (go_at_call 11; refine HE1.out.mono ?_)
    rintro r w10 ⟨rfl, qn, rfl⟩
    have HOP10 := Lib.hid (HOP9.out.below (below_drewN (Below.refl _ w9) qn))
    generalize w9.drewN qn = w10 at HOP10 ⊢
    clear HE1 HOP9
    have HE2 := Lib.hid (eqTexts_same w10 a6 ln k6 L (HT5.out _ _ _ _ _ HOP10.out).2.1 a7 ln k7 (HT5.out _ _ _ _ _ HOP10.out).2.2)
    go_wp2_with (go_at_call 11; refine HE2.out.mono ?_)
    rintro r w11 ⟨rfl, qn, rfl⟩
    have HOP11 := Lib.hid (HOP10.out.below (below_drewN (Below.refl _ w10) qn))
    generalize w10.drewN qn = w11 at HOP11 ⊢
    clear HE2 HOP10
    go_wp2_with fail
    go_loopw [9] (fun v9 wr => ∃ (k : Nat) (m : List Str), k ≤ nf ∧ v9 = .int .i64 (k : Int) ∧ m.length = nf + 64 ∧ OP w wr b1 b2 g1 g2 #[.bool q, .bool e, .bool a, .bool i, .slice ap np cp, .slice af nf cf] #[.bool q, .bool e, .bool a, .bool i, .slice (some ⟨g1, 0, none⟩) np (np + 64), .slice (some ⟨g2, 0, none⟩) nf (nf + 64)] parts m (.slice a5 ln k5) (.slice a6 ln k6) (.slice a7 ln k7) L L L) (fun v9 _ => nf - (intOf v9).toNat)
    case atStart => exact ⟨0, _, Nat.zero_le _, rfl, by rw [wideT_len, HFL.out], HOP11.out⟩
    case round =>
      clear HOP11
      obtain ⟨k, m, hk, rfl, hml, hO⟩ := hrel
      have HO := Lib.hid hO
      have HML := Lib.hid hml
      clear hO hml
      have d5 : wr.cell? ⟨b2, 5, none⟩ = some (.slice (some ⟨g2, 0, none⟩) nf (nf + 64)) := Lib.cell_of_heap HO.out.x2 5
      by_cases hlt : k < nf
      · have hd2 : decide ((k : Int) < (nf : Int)) = true := decide_eq_true (by omega)
        have hc1 := HO.out.f.cell k (by rw [HML.out]; omega)
        have hf1 := HO.out.f.frozen k
        have HST := Lib.hid (HO.out.store k ⟨#[115, 112, 111, 105, 108, 116]⟩)
        generalize m[k]?.getD ByteArray.empty = zz at hc1
        go_wp2_with fail
        go_roundw
        case rel => exact ⟨k + 1, _, by omega, by go_num, by rw [List.length_set, HML.out], HST.out⟩
        case measure => simp [intOf]; omega
      · have hd2 : decide ((k : Int) < (nf : Int)) = false := decide_eq_false (by omega)
        have HE3 := Lib.hid (eqTexts_same wr a5 ln k5 L (HT5.out _ _ _ _ _ HO.out).1 a7 ln k7 (HT5.out _ _ _ _ _ HO.out).2.2)
        go_wp2_with (go_at_call 11; refine HE3.out.mono ?_)
        rintro r w12 ⟨rfl, qn, rfl⟩
        have HO12 := Lib.hid (HO.out.below (below_drewN (Below.refl _ wr) qn))
        generalize wr.drewN qn = w12 at HO12 ⊢
        clear HE3 d5
        have HG0 := Lib.hid (GT.start (W := w) HO12.out.bel)
        have HO13 := Lib.hid (HO12.out.below ((Below.refl _ w12).alloc (Nat.le_refl _) bagZero))
        clear HO12 HO
        go_upto_region 18 with fail
        generalize w12.alloc (.cells #[.slice none 0 0, .slice none 0 0, .slice none 0 0, .slice none 0 0, .slice none 0 0, .slice none 0 0, .slice none 0 0, .slice none 0 0, .slice none 0 0, .slice none 0 0, .slice none 0 0, .slice none 0 0, .slice none 0 0, .slice none 0 0, .slice none 0 0, .slice none 0 0, .slice none 0 0, .slice none 0 0, .slice none 0 0] 55) = w13 at HG0 HO13 ⊢
        generalize w12.heap.size = bg at HG0 ⊢
        have HA1 := Lib.hid (HG0.out.add (by omega) HO13.out.o5 (by rw [HLN.out]; exact hlb) (fun j hj => by omega))
        go_wp2_with (go_at_call 21; refine HA1.out.mono ?_)
        rintro r w14 ⟨rfl, hk14, fs1, bv1, hG1⟩
        have HA2 := Lib.hid (hG1.add (by omega) (hk14.own HO13.out.o6) (by rw [HLN.out]; exact hlb) (fun j hj => by
          obtain rfl : j = 0 := by omega
          rw [snoc_same]
          exact HO13.out.a56))
        clear hk14 hG1 HA1
        go_wp2_with (go_at_call 21; refine HA2.out.mono ?_)
        rintro r w15 ⟨rfl, -, fs2, bv2, hG2⟩
        have HAP := Lib.hid (hG2.apart (by omega) HTW.out)
        clear hG2 HA2
        go_wp2_with (go_at_call 16; refine HAP.out.mono ?_)
        rintro r w16 ⟨rfl, b16⟩
        have HB16 := Lib.hid b16
        clear b16 HAP
        go_wp2_with fail
        go_ret
        exact ⟨rfl, HB16.out⟩
end Go.Proofs.YtgepjjpcokbpjaaDoor
