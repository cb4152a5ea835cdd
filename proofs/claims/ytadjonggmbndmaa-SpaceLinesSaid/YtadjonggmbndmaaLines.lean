/-
  galleylaw25.lines: what lies between line ends.
-/
import Derived.Test.YtadjonggmbndmaaSetLast
import Derived.Deep.RegionLaw
import Derived.Deep.AppendLies
namespace Go.Proofs.Ytadjonggmbndmaa
open Go.RowKit

theorem linesL_take (l : List Int) (k : Nat) (h : k < l.length) : linesL (l.take (k + 1)) = linesStep (linesL (l.take k)) (l[k]?.getD 0) := by
  rw [take_snoc l k h]
  unfold linesL
  rw [List.foldl_append]
  rfl
theorem step_nl (R0 : List (List Int)) (z : List Int) : linesStep (R0 ++ [z]) 10 = (R0 ++ [z]) ++ [[]] := by unfold linesStep; rw [if_pos rfl]
theorem step_c (R0 : List (List Int)) (z : List Int) (c : Int) (h : c ≠ 10) : linesStep (R0 ++ [z]) c = R0 ++ [z ++ [c]] := by
  unfold linesStep
  rw [if_neg h, List.dropLast_concat]
  simp

def LinesInv (w : World) (l : List Int) (v i : Value) (wr : World) : Prop :=
  ∃ (k b : Nat) (R0 : List (List Int)) (z : List Int) (vs0 : List Value) (u : Value), k ≤ l.length ∧ i = .int .i64 k ∧ linesL (l.take k) = R0 ++ [z] ∧ Rws wr w.heap.size b v (vs0 ++ [u]) (R0 ++ [z]) ∧ (∀ y ∈ vs0, Apart y u) ∧ z.length ≤ k ∧ R0.length ≤ k ∧ Below w.heap.size w wr
def LinesPost (w : World) (l : List Int) (e : Ending) (w' : World) : Prop := ∃ v, e = .returned v ∧ RB w' v (linesL l) ∧ Below w.heap.size w w'

theorem lines_start (w : World) (l : List Int) : LinesInv w l (.slice (some ⟨w.heap.size, 0, none⟩) 1 1) (.int .i64 0) (w.alloc (.cells #[.slice none 0 0] 35)) :=
  ⟨0, w.heap.size, [], [], [], .slice none 0 0, by omega, rfl, rfl, ⟨⟨0, 1, _, rfl, Nat.le_refl _, heap_alloc_new w _, by simp, rfl, by decide, rfl⟩, rfl, fun i hi => by
    have : i = 0 := by simpa using hi
    subst this
    exact ⟨_, rfl, OwnB.nil _ _, by simp [Value.ownBlock], isB_nil, by simp⟩⟩, fun y hy => by simp at hy, by simp, by simp, (Below.refl _ w).alloc (Nat.le_refl _) _⟩

theorem Rws.apart_new {w w1 : World} {base b : Nat} {v u u' : Value} {vs : List Value} {R : List (List Int)} {z : List Int} (h : Rws w base b v (vs ++ [u]) (R ++ [z])) (hap : ∀ y ∈ vs, Apart y u) (hA : AppPost w w1 base u u') : ∀ y ∈ vs, Apart y u' := fun y hy => by
  obtain ⟨i, hi⟩ := List.mem_iff_getElem?.1 hy
  have hlt := (List.getElem?_eq_some_iff.1 hi).1
  have hlen := h.len
  simp at hlen
  obtain ⟨y2, h1, h2, -⟩ := h.own i (by simp; omega)
  rw [List.getElem?_append_left hlt, hi] at h1
  obtain rfl := Option.some.inj h1
  exact Apart.symm (hA.other _ _ _ _ _ _ h2 (Apart.symm (hap y hy))).2
theorem Win.frozen {w : World} {base b : Nat} {v : Value} {vs : List Value} (h : Win w base b v vs) (j : Nat) : w.frozen? ⟨b, j, none⟩ = false := by
  obtain ⟨off, cap, cur, -, -, hblk, -⟩ := h
  exact frozen_of_row _ b _ _ _ hblk

/-- append(out, y), one byte, at a step of a region that draws its order. -/
theorem step_append_b1 {ops : Array Oper} {o : Oper} {a : Act} {w : World} {K : Act → World → Prop} {Q : Exit → Act → World → Prop} {E : Prop} (hgd : o.guard = none) (s x : Operand)
    (ho : o.op = .call { callee := .builtin .append, args := #[s, x], argTypes := #[35, 35] })
    (base : Nat) (v : Value) (xs : List Int) (y : Int) (hs : a.eval s = v) (hown : OwnB w base v xs) (hx : a.eval x = .slice (some ⟨w.heap.size, 0, none⟩) 1 1) (hsum : xs.length + 1 ≤ 140737488355328) (hbase : base ≤ w.heap.size)
    (h : ∀ g cap w', OwnB w' base (.slice (some ⟨g, 0, none⟩) (xs.length + 1) cap) (xs ++ [y]) → AppPost w w' base v (.slice (some ⟨g, 0, none⟩) (xs.length + 1) cap) → K (a.put o.dst (.slice (some ⟨g, 0, none⟩) (xs.length + 1) cap)) w') :
    if Region.wanted o (yielded ops a.tmps) = true then Oper.wp Try.prog o a (w.alloc (.cells #[.int .u8 y] 5)).drew K Q else E := by
  obtain ⟨i0, hi, hz0, hz1, hz2⟩ := info_parts infoB
  refine step_append_lies _ hgd s x 35 ho base 5 i0 (.int .u8 0) 1 1 Try.underlying35 hi hz0 hz1 hz2 rfl (by decide) v xs.length (xs.map (Value.int .u8)) hs (World.ownsRow.alloc hown _) ⟨w.heap.size, 0, none⟩ 1 1 [.int .u8 y] hx rfl (one_cell _ _) (one_one _) (by decide) (by unfold maxLen; omega) (by omega) (by show base ≤ (w.alloc _).heap.size; rw [World.size_alloc]; omega) _ rfl ?_
  intro g cap w' hown' hgrow hat _
  exact h g cap w' (own_step hown') (app_post hown (Nat.le_refl _) hbase ((Below.refl _ w).alloc (Nat.le_refl _) _).drew hgrow (hat.imp Eq.symm (congrArg some)))

set_option maxHeartbeats 2000000 in
set_option maxRecDepth 100000 in
theorem lines_any (w : World) (v : Value) (l : List Int) (hb : SB w v l) (hl : l.length ≤ 5000000000000) : Calls Try.prog 43 #[v] w (LinesPost w l) := by
  have hst0 := Lib.hid (lines_start w l)
  obtain ⟨hB, a, c, rfl, -, hc⟩ := id hb
  have HC := Lib.hid hc
  have HB := Lib.hid hB
  clear hc hb hB
  go_enter Try.func43, Try.ntmps43
  go_wp2_with fail
  go_loopw [3, 4] (fun v i wr => LinesInv w l v i wr) (fun _ i _ => l.length - (intOf i).toNat)
  case atStart => exact hst0.out
  case round =>
    obtain ⟨k, b, R0, z, vs0, u, hk, rfl, hR, hrw, hap, hz, hr0, rb⟩ := hrel
    have hbs := rb.size
    have HR := Lib.hid hR
    have HAP := Lib.hid hap
    have Hrw := Lib.hid hrw
    clear hR hap hrw
    by_cases hlt : k < l.length
    · obtain ⟨bb, o, rfl, hcc⟩ := HC.out.resolve_left (by intro e; rw [e] at hlt; simp at hlt)
      have h1 := hcc k hlt
      have h1 : wr.cell? ⟨bb, o + k, none⟩ = some (.int .u8 (l[k]?.getD 0)) := by rw [rb.cell (World.block_lt_of_cell? w _ h1)]; exact h1
      have hxb := HB.out k
      have hst := linesL_take l k hlt
      rw [HR.out] at hst
      have hbb := World.block_lt_of_cell? w _ (hcc k hlt)
      clear hcc
      generalize l[k]?.getD 0 = x at h1 hst hxb
      have Hw := Hrw.out.win
      by_cases h10 : x = 10
      · subst h10
        rw [step_nl] at hst
        have Hst := Lib.hid hst
        clear hst hxb
        have hlen := Hrw.out.len
        rw [List.length_append, List.length_append] at hlen
        simp only [List.length_singleton] at hlen
        go_wp2_with (at_builtin; refine append_win rfl (.tmp 17) (.tmp 18) rfl w.heap.size b _ (vs0 ++ [u]) (.slice none 0 0) rfl Hw rfl rfl (by rw [List.length_append, List.length_singleton]; omega) ?_)
        intro b' v' w2 hw2 hp
        have hrw2 := Lib.hid (Hrw.out.append (x := []) (y := .slice none 0 0) (by simpa using hw2) hp (OwnB.nil _ _) (by simp [Value.ownBlock]) isB_nil (by simp))
        have hb2 := hp.bel _ _ rb (Nat.le_refl _)
        clear Hw hw2 hp rb h1
        go_wp2_with fail
        go_roundw
        case rel => exact ⟨k + 1, b', R0 ++ [z], [], vs0 ++ [u], _, by omega, by go_num, Hst.out, hrw2.out, fun y hy k e1 e2 => by simp [Value.ownBlock] at e2, by simp, by simp; omega, hb2⟩
        case measure => simp [intOf]; omega
      · rw [step_c _ _ _ h10] at hst
        have hne : (x == 10) = false := beq_eq_false_iff_ne.2 h10
        have Hst := Lib.hid hst
        clear hst
        obtain ⟨u2, hu2, ho, hub, hzB, hzl⟩ := Hrw.out.own R0.length (by simp)
        have hlen := Hrw.out.len
        rw [List.length_append, List.length_append] at hlen
        simp only [List.length_singleton] at hlen
        rw [List.getElem?_append_right (by omega), show R0.length - vs0.length = 0 by omega] at hu2
        obtain rfl : u = u2 := by simpa using hu2
        rw [List.getElem?_append_right (by omega), Nat.sub_self] at ho hzB hzl
        have ho : OwnB wr w.heap.size u z := ho
        have hzB : IsB z := hzB
        have hzl : z.length ≤ 140737488351232 := hzl
        obtain ⟨ad, c2, rfl, g1, g2, g3⟩ := ho.sbn hzB hzl
        obtain ⟨off, cap, hv, hle, hcell⟩ := Hw.read
        have h0 := hcell vs0.length (.slice ad z.length c2) (by simp)
        have Ho := Lib.hid ho
        have HzB := Lib.hid hzB
        obtain ⟨m, hm⟩ : ∃ m, vs0.length = m := ⟨_, rfl⟩
        rw [List.length_append, List.length_singleton, hm] at hle hv
        rw [hm] at h0 hlen
        have HM := Lib.hid hm
        subst hv
        have HL := Lib.hid hlen
        have hmk : m ≤ k := by omega
        have hbbu : (Value.slice ad z.length c2).ownBlock ≠ some bb := fun e => by have h7 := (World.ownsRow.lt Ho.out bb e).1; have h8 : bb < w.heap.size := hbb; omega
        clear hcell ho hzB Hw hu2 g2 g3 hm hlen
        have w1 : IntKind.i64.wrap ((m : Int) + 1 - 1) = m := by rw [show (m : Int) + 1 - 1 = m by omega]; exact IntWalk.i64_in _ (by omega)
        have w2 : IntKind.i64.wrap (m : Int) = m := IntWalk.i64_in _ (by omega)
        have w3 : (0 : Int) ≤ (m : Int) := by omega
        have w4 : (m : Int) < (m : Int) + 1 := by omega
        have w5 : (m : Int) < ((m + 1 : Nat) : Int) := by omega
        go_wp2_with fail
        have hba := (Below.refl wr.heap.size wr).alloc (Nat.le_refl _) (.cells #[.int .u8 x] 5)
        have h0a : (wr.alloc (.cells #[.int .u8 x] 5)).drew.cell? ⟨b, off + m, none⟩ = some (.slice ad z.length c2) := (hba.cell (World.block_lt_of_cell? wr _ h0)).trans h0
        have hbw := Hrw.out.win.lt
        have hbge : w.heap.size ≤ b := by obtain ⟨_, _, _, _, h9, _⟩ := Hrw.out.win; exact h9
        clear hba
        go_region_law ((refine step_append_b1 (by rfl) _ _ (by rfl) w.heap.size (.slice ad z.length c2) z x (by rfl) Ho.out (by rfl) (by omega) hbs ?_; intro g cap' wn ho1 hA; have hfr : wn.frozen? ⟨b, off + m, none⟩ = false := (World.frozen?_of_block (a := ⟨b, off + m, none⟩) (hA.block b Hrw.out.win.lt hub)).trans (Hrw.out.win.frozen _); have hce : wn.cell? ⟨b, off + m, none⟩ = some (.slice ad z.length c2) := (World.cell?_of_block (a := ⟨b, off + m, none⟩) (hA.block b Hrw.out.win.lt hub)).trans h0))
        all_goals
          have hb1 := hA.bel _ _ rb (Nat.le_refl _)
          have hb2 : Below w.heap.size w (wn.setCell ⟨b, off + m, none⟩ (.slice (some ⟨g, 0, none⟩) (z.length + 1) cap')) := hb1.setCell (by show w.heap.size ≤ b; exact hbge) _
          have hrw2 := Hrw.out.setLast HAP.out ho1 hA (isB_append _ _ HzB.out (isB_one x hxb.1 hxb.2)) (by rw [List.length_append]; simp; omega)
          rw [HM.out] at hrw2
          have hrw2 := Lib.hid hrw2
          have hapn := Lib.hid (Hrw.out.apart_new HAP.out hA)
          clear hA ho1 hfr hce h0a h0 h1 rb hb1 w1 w2 w3 w4 w5
          go_wp2_with fail
          go_roundw
          case rel => exact ⟨k + 1, b, R0, z ++ [x], vs0, _, by omega, by go_num, Hst.out, hrw2.out, hapn.out, by simp; omega, by omega, hb2⟩
          case measure => simp [intOf]; omega
    · have e : l.take k = l := List.take_of_length_le (by omega)
      have hR := HR.out
      rw [e] at hR
      have HO := Lib.hid (show LinesPost w l (.returned _) wr from ⟨_, rfl, by rw [hR]; exact Hrw.out.rb (by simp; omega), rb⟩)
      clear e hR
      go_wp2_with fail
      go_ret
      exact HO.out
end Go.Proofs.Ytadjonggmbndmaa
