/-
  galleyref16.with: the pieces and a byte behind them.
-/
import Derived.Test.YtdbkoephkdfbfaaDoorGroup
import Derived.Test.YtdbkoephkdfbfaaDoorBagM
namespace Go.Proofs.YtdbkoephkdfbfaaDoor
open Go.RowKit

theorem nePU : (5 : TypeId) ≠ 122 := by decide
theorem nePUs : (122 : TypeId) ≠ 5 := by decide
/-- All that lies below the pieces is as it was. -/
def KeptW (w w' : World) (base : Nat) : Prop := (∀ B a, Below B a w → B ≤ base → Below B a w') ∧ w.heap.size ≤ w'.heap.size
def WithPost (w : World) (base : Nat) (p : List Pc) (n : Nat) (e : Ending) (w' : World) : Prop := ∃ v L, e = .returned v ∧ OwnPs w' base v L ∧ plainP L = p ∧ L.length ≤ n + 1 ∧ KeptW w w' base

/-- A text of the last piece is gone on with. -/
theorem OwnPs.last {w w1 : World} {base g n cap : Nat} {L : List PcV} {vt vt' : Value} {tx tx' : List Int} (h : OwnPs w base (.slice (some ⟨g, 0, none⟩) n cap) (L ++ [(-1, vt, tx)])) (hA : AppPost w w1 base vt vt') (hown : OwnB w1 base vt' tx') :
    OwnPs (w1.setCell ⟨g, L.length * 2 + 1, none⟩ vt') base (.slice (some ⟨g, 0, none⟩) n cap) (L ++ [(-1, vt', tx')]) ∧ base ≤ g := by
  have hlast : ((-1, vt, tx) : PcV) ∈ L ++ [(-1, vt, tx)] := by simp
  have hfv := h.far _ hlast
  have hn : n = (L ++ [(-1, vt, tx)]).length := own_len h.own
  subst hn
  have ho := (hA.other _ _ _ _ _ _ h.own hfv.symm).1
  have hsx := hA.other _ _ _ _ (.slice (some ⟨g, 0, none⟩) _ cap) _ h.own hfv.symm
  have hst := (World.ownsRow.stored ho (L.length * 2 + 1) vt').1
  have hset : (cellsP (L ++ [(-1, vt, tx)])).set (L.length * 2 + 1) vt' = cellsP (L ++ [(-1, vt', tx')]) := by
    rw [cellsP_append, cellsP_append]
    have hl := cellsP_len L
    rw [List.set_append_right _ _ (by omega), show L.length * 2 + 1 - (cellsP L).length = 1 by omega]
    rfl
  rw [hset] at hst
  have hb : base ≤ g := (World.ownsRow.lt h.own g rfl).1
  have htg : ∀ x ∈ L, x.2.1.ownBlock ≠ some g := fun x hx e => h.far x (List.mem_append_left _ hx) g rfl e
  have hvg : vt'.ownBlock ≠ some g := fun e => hsx.2 g e rfl
  have hsep := List.pairwise_append.1 h.sep
  have hLx : ∀ x ∈ L, Apart vt x.2.1 := fun x hx => (hsep.2.2 x hx (-1, vt, tx) (by simp)).symm
  refine ⟨⟨?_, fun x hx => ?_, fun x hx => ?_, ?_⟩, hb⟩
  · have e : (L ++ [((-1 : Int), vt', tx')]).length = (L ++ [((-1 : Int), vt, tx)]).length := by simp
    rw [e]
    exact hst
  · rcases List.mem_append.1 hx with hx | hx
    · exact ((hA.other _ _ _ _ _ _ (h.txt x (List.mem_append_left _ hx)) (hLx x hx)).1 |> fun k => ownsRow_setCell_other k (htg x hx) _)
    · obtain rfl := List.mem_singleton.1 hx
      exact ownsRow_setCell_other hown hvg _
  · rcases List.mem_append.1 hx with hx | hx
    · exact h.far x (List.mem_append_left _ hx)
    · obtain rfl := List.mem_singleton.1 hx
      exact hsx.2.symm
  · rw [List.pairwise_append]
    refine ⟨hsep.1, List.pairwise_singleton _ _, fun x hx y hy => ?_⟩
    obtain rfl := List.mem_singleton.1 hy
    exact ((hA.other _ _ _ _ _ _ (h.txt x (List.mem_append_left _ hx)) (hLx x hx)).2).symm

set_option maxHeartbeats 1000000 in
set_option maxRecDepth 100000 in
theorem with_more (w : World) (base : Nat) (v : Value) (L : List PcV) (vt : Value) (tx : List Int) (h : OwnPs w base v (L ++ [(-1, vt, tx)])) (hL : L.length ≤ 4294967296) (htx : tx.length ≤ 4294967296) (b : Int) (hbase : base ≤ w.heap.size) :
    Calls Tryd.prog 93 #[v, .int .u8 b] w (WithPost w base (plainP L ++ [(-1, tx ++ [b])]) (L.length + 1)) := by
  obtain ⟨g, cap, rfl, hcap⟩ : ∃ g cap, v = .slice (some ⟨g, 0, none⟩) (L.length + 1) cap ∧ L.length + 1 ≤ cap := by
    rcases h.own.2 with ⟨_, h0⟩ | ⟨g, cap, cur, rfl, _, _, hc, _⟩
    · rw [List.length_append] at h0; simp at h0
    · rw [List.length_append] at hc ⊢; exact ⟨g, cap, rfl, hc⟩
  have hlast : ((-1, vt, tx) : PcV) ∈ L ++ [(-1, vt, tx)] := by simp
  have htxt : OwnB w base vt tx := h.txt _ hlast
  obtain ⟨at_, ct, rfl⟩ := htxt.shape
  have hget := cellsP_get (L ++ [(-1, .slice at_ tx.length ct, tx)]) L.length (by simp)
  have hx : (L ++ [((-1 : Int), Value.slice at_ tx.length ct, tx)])[L.length]'(by simp) = (-1, .slice at_ tx.length ct, tx) := by simp
  rw [hx] at hget
  have hown0 : w.ownsRow base 122 2 (.slice (some ⟨g, 0, none⟩) (L.length + 1) cap) (L.length + 1) (cellsP (L ++ [(-1, .slice at_ tx.length ct, tx)])) := by have := h.own; rw [List.length_append] at this; exact this
  obtain ⟨n, hn⟩ : ∃ n, L.length = n := ⟨_, rfl⟩
  have c0 : w.cell? ⟨g, n * 2, none⟩ = some (.int .i64 (-1)) := by rw [← hn]; exact (World.ownsRow.cellAt hown0 _ (by omega)).trans hget.1
  have c1 : w.cell? ⟨g, n * 2 + 1, none⟩ = some (.slice at_ tx.length ct) := by rw [← hn]; exact (World.ownsRow.cellAt hown0 _ (by omega)).trans hget.2
  have hg := (World.ownsRow.lt h.own g rfl).2
  have H := Lib.hid h
  have HN := Lib.hid hn
  rw [hn] at hcap hL ⊢
  have hd : decide (0 < n + 1) = true := by simp
  clear h hlast hget hx hn hown0
  go_enter Tryd.func93, Tryd.ntmps93
  go_wp2_with (at_builtin; refine append_b1 rfl (.tmp 27) (.tmp 29) rfl base _ tx b rfl htxt rfl (by omega) hbase ?_)
  intro v' w1 hown hA
  have hO := H.out.last hA hown
  rw [HN.out] at hO
  obtain ⟨av, cv, rfl⟩ := hown.shape
  generalize (tx ++ [b]).length = nt at hO hA hown ⊢
  have hbg : (Value.slice at_ tx.length ct).ownBlock ≠ some g := fun e => H.out.far (-1, .slice at_ tx.length ct, tx) (by simp) g rfl e
  have hk := hA.block g hg hbg
  have c1' : w1.cell? ⟨g, n * 2 + 1, none⟩ = some (.slice at_ tx.length ct) := (World.cell?_of_block (w := w) hk).trans c1
  have hfr : w1.frozen? ⟨g, n * 2 + 1, none⟩ = false := by
    have ho := (hA.other _ _ _ _ _ _ H.out.own (H.out.far (-1, .slice at_ tx.length ct, tx) (by simp)).symm).1
    have he := own_len ho
    rw [← he] at ho
    exact World.ownsRow.frozenAt ho _
  have HF : Hid (WithPost w base (plainP L ++ [(-1, tx ++ [b])]) (n + 1) (.returned (.slice (some ⟨g, 0, none⟩) (n + 1) cap)) (w1.setCell ⟨g, n * 2 + 1, none⟩ (.slice av nt cv))) :=
    Lib.hid ⟨_, _, rfl, hO.1, by rw [plainP_append]; rfl, by rw [List.length_append, HN.out]; exact Nat.le_succ _, fun B a hB hle => (hA.bel _ _ hB hle).setCell (by show B ≤ g; omega) _, by rw [setCell_size]; exact hA.size⟩
  clear hO hA hown hbg hk c0 c1 htxt
  go_wp2_with fail
  go_ret
  exact HF.out

set_option maxHeartbeats 1000000 in
set_option maxRecDepth 100000 in
theorem with_new (w : World) (base : Nat) (v : Value) (L : List PcV) (h : OwnPs w base v L) (hlast : L = [] ∨ ∃ L0 g vx tx, L = L0 ++ [(g, vx, tx)] ∧ g ≠ -1) (hL : L.length ≤ 4294967296) (b : Int) (hbase : base ≤ w.heap.size) :
    Calls Tryd.prog 93 #[v, .int .u8 b] w (WithPost w base (plainP L ++ [(-1, [b])]) L.length) := by
  obtain ⟨i0, hi, hz0, hz1, hz2⟩ := info_parts infoP
  obtain ⟨av, cv, rfl⟩ := own_shape h.own
  have H := Lib.hid h
  have hb1' := (Below.refl w.heap.size w).alloc (Nat.le_refl _) (.cells #[.int .u8 b] 5)
  have H1 := h.below hb1'
  have ht : OwnB (w.alloc (.cells #[.int .u8 b] 5)) base (.slice (some ⟨w.heap.size, 0, none⟩) 1 1) [b] :=
    ⟨rfl, .inr ⟨w.heap.size, 1, #[.int .u8 b], rfl, hbase, heap_alloc_new w _, Nat.le_refl _, by decide, rfl, rfl⟩⟩
  have hfar : ∀ (u : Value), (∀ k, u.ownBlock = some k → k < w.heap.size) → Apart u (.slice (some ⟨w.heap.size, 0, none⟩) 1 1) := fun u hu k h1 h2 => by
    have := hu k h1
    simp only [Value.ownBlock, Option.some.injEq] at h2
    omega
  have hv := hfar _ fun k e => (World.ownsRow.lt h.own k e).2
  have hx : ∀ x ∈ L, Apart (.slice (some ⟨w.heap.size, 0, none⟩) 1 1) x.2.1 := fun x hx => (hfar _ fun k e => (World.ownsRow.lt (h.txt x hx) k e).2).symm
  have HX := Lib.hid (And.intro hv hx)
  have HT := Lib.hid ht
  have HH1 := Lib.hid H1
  have hown1 := H1.own
  have hs1 : (w.alloc (.cells #[.int .u8 b] 5)).heap.size = w.heap.size + 1 := by simp
  have HBB := Lib.hid hb1'
  rcases hlast with rfl | ⟨L0, g, vx, tx, rfl, hg⟩
  · clear h hv hx hfar ht H1 hb1'
    go_enter Tryd.func93, Tryd.ntmps93
    go_wp2_with (at_builtin; refine append_new rfl (.tmp 34) (.tmp 38) 75 122 i0 (.agg #[.int .i64 0, .slice none 0 0]) 2 32 rfl Tryd.underlying75 hi hz0 hz1 hz2 rfl (by decide) base _ 0 (cellsP []) rfl hown1 1 [.int .i64 (-1), .slice (some ⟨w.heap.size, 0, none⟩) 1 1] _ rfl rfl ?a1 (by rw [hs1]; rfl) ?a2 ?a3 (by omega) ?_)
    case a1 => intro u hu; simp at hu; rcases hu with rfl | rfl <;> rfl
    case a2 => unfold maxLen; omega
    case a3 => omega
    intro v' w1 hown _ hA
    have hP := HH1.out.push (g := -1) (tx := [b]) hA hown HT.out HX.out.1 HX.out.2
    have HF : Hid (WithPost w base (plainP [] ++ [(-1, [b])]) ([] : List PcV).length (.returned v') w1) := Lib.hid ⟨_, _, rfl, hP, by rw [plainP_append]; rfl, by simp, fun B a hB hle => hA.bel _ _ (hB.trans (HBB.out.mono (by omega))) hle, by have := hA.size; omega⟩
    clear hP hA hown hown1
    go_wp2_with fail
    go_ret
    exact HF.out
  · obtain ⟨n, hn⟩ : ∃ n, L0.length = n := ⟨_, rfl⟩
    have hlen : (L0 ++ [(g, vx, tx)]).length = n + 1 := by simp [hn]
    have HN := Lib.hid (And.intro hn hlen)
    have hget := cellsP_get (L0 ++ [(g, vx, tx)]) L0.length (by simp)
    have hxx : (L0 ++ [(g, vx, tx)])[L0.length]'(by simp) = (g, vx, tx) := by simp
    rw [hxx] at hget
    have hown0 := h.own
    rw [hlen] at hown0 hown1 hL ⊢
    obtain ⟨gb, cap, he, hcap⟩ : ∃ gb cap, Value.slice av (n + 1) cv = .slice (some ⟨gb, 0, none⟩) (n + 1) cap ∧ n + 1 ≤ cap := by
      rcases hown0.2 with ⟨_, h0⟩ | ⟨gb, cap, cur, e, _, _, hc, _⟩
      · omega
      · exact ⟨gb, cap, e, hc⟩
    simp only [Value.slice.injEq] at he
    obtain ⟨rfl, -, rfl⟩ := he
    have c0 : w.cell? ⟨gb, n * 2, none⟩ = some (.int .i64 g) := by rw [← hn]; exact (World.ownsRow.cellAt hown0 _ (by omega)).trans hget.1
    have hgq : (g == -1) = false := beq_eq_false_iff_ne.2 hg
    have hd : decide (0 < n + 1) = true := by simp
    clear h hv hx hfar ht H1 hb1' hget hxx hn hlen hown0 hg
    go_enter Tryd.func93, Tryd.ntmps93
    go_wp2_with (at_builtin; refine append_new rfl (.tmp 34) (.tmp 38) 75 122 i0 (.agg #[.int .i64 0, .slice none 0 0]) 2 32 rfl Tryd.underlying75 hi hz0 hz1 hz2 rfl (by decide) base _ (n + 1) (cellsP (L0 ++ [(g, vx, tx)])) rfl hown1 1 [.int .i64 (-1), .slice (some ⟨w.heap.size, 0, none⟩) 1 1] _ rfl rfl ?a1 (by rw [hs1]; rfl) ?a2 ?a3 (by omega) ?_)
    case a1 => intro u hu; simp at hu; rcases hu with rfl | rfl <;> rfl
    case a2 => unfold maxLen; omega
    case a3 => omega
    intro v' w1 hown _ hA
    have h1 := HH1.out
    have h2 := HX.out.1
    rw [HN.out.2] at h1 h2
    have hP := h1.push (g := -1) (tx := [b]) hA (by rw [HN.out.2]; exact hown) HT.out h2 HX.out.2
    have HF : Hid (WithPost w base (plainP (L0 ++ [(g, vx, tx)]) ++ [(-1, [b])]) (n + 1) (.returned v') w1) := Lib.hid ⟨_, _, rfl, hP, by rw [plainP_append (L0 ++ [(g, vx, tx)])]; rfl, by rw [List.length_append, HN.out.2]; exact Nat.le_refl _, fun B a hB hle => hA.bel _ _ (hB.trans (HBB.out.mono (by omega))) hle, by have := hA.size; omega⟩
    clear hP hA hown hown1 h1 h2 c0
    go_wp2_with fail
    go_ret
    exact HF.out
end Go.Proofs.YtdbkoephkdfbfaaDoor
