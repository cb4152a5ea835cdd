/-
  galleylaw08.placed: a machine's instructions, so many places further on.
-/
import Derived.Test.YtfmcjmkdlldlhaaLgMa
import Derived.Test.YtfmcjmkdlldlhaaLgAi
import Derived.Test.YtfmcjmkdlldlhaaLgSl
import Derived.Test.YtfmcjmkdlldlhaaLgOi
namespace Go.Proofs.Ytfmcjmkdlldlhaa
open Go.RowKit
attribute [local go_sem] Oper.semAt_some

theorem own_belowI {W W' : World} {base s n : Nat} {e : TypeId} {v : Value} {xs : List Value} (h : W.ownsRow base e s v n xs) (hb : Below W.heap.size W W') : W'.ownsRow base e s v n xs := own_blk h fun k hk => hb.block k (World.ownsRow.lt h k hk).2
theorem placedM_snoc (k : Int) (M : List Ins) (i : Nat) (x : Ins) (h : M[i]? = some x) : placedM k (M.take (i + 1)) = placedM k (M.take i) ++ [placeI k x] := by
  have hg := List.getElem?_eq_some_iff.1 h
  rw [List.take_succ_eq_append_getElem hg.1, hg.2, placedM, List.map_append]
  rfl
set_option maxHeartbeats 4000000 in
theorem placed_any (W : World) (M : List Ins) (a : Option Addr) (n c : Nat) (h : MI W a n c M) (hn : n ≤ 1048576) (hop : ∀ x ∈ M, InR x) (k0 : Int) (hk0 : 0 ≤ k0 ∧ k0 ≤ 2000000) (hx0 : ∀ x ∈ M, (x.op = 4 ∨ x.op = 5 → 0 ≤ x.x ∧ x.x ≤ 2000000) ∧ (x.op = 5 → 0 ≤ x.y ∧ x.y ≤ 2000000)) :
    Calls Try.prog 24 #[.slice a n c, .int .i64 k0] W fun e W' => ∃ v, e = .returned v ∧ W'.ownsRow W.heap.size TI 7 v M.length (cellsI (placedM k0 M)) ∧ Below W.heap.size W W' := by
  have hlen : M.length = n := h.2.1
  have H := Lib.hid h
  have HOP := Lib.hid hop
  have HX0 := Lib.hid hx0
  clear hop
  have HL := Lib.hid hlen
  have HN := Lib.hid hn
  have HK0 := Lib.hid hk0
  clear h hlen hx0 hn hk0
  go_enter Try.func24, Try.ntmps24
  go_wp2_with fail
  go_loopw [5, 6] (fun out i wr => ∃ k : Nat, k ≤ n ∧ i = .int .i64 k ∧ wr.ownsRow W.heap.size TI 7 out k (cellsI (placedM k0 (M.take k))) ∧ Below W.heap.size W wr) (fun _ i _ => n - (intOf i).toNat)
  case atStart => exact ⟨0, Nat.zero_le _, rfl, World.ownsRow_nil _ _ _ _, Below.refl _ _⟩
  case round =>
    obtain ⟨k, hk, rfl, ho, hbw⟩ := hrel
    have HBW := Lib.hid hbw
    have HO := Lib.hid ho
    clear hbw ho
    by_cases hkl : k < n
    · obtain ⟨x, hx⟩ : ∃ x, M[k]? = some x := ⟨M[k]'(by rw [HL.out]; exact hkl), List.getElem?_eq_getElem _⟩
      have hC := H.out.1 x (List.mem_of_getElem? hx)
      obtain ⟨p0, p1, p2, p3, hp⟩ := isC_words x.set hC
      obtain ⟨b, off, rfl, d0, d1, d2, d3, d4, d5, d6⟩ := (H.out.below HBW.out).instr hx hp
      have hxr := HOP.out x (List.mem_of_getElem? hx)
      have hxx := HX0.out x (List.mem_of_getElem? hx)
      have hwx : wrap64 x.op = x.op := by have := hxr.1; unfold wrap64; omega
      have hkw : IntKind.i64.wrap ((k : Int) + 1) = (k : Int) + 1 := IntWalk.i64_in _ (by have := HN.out; omega)
      have HX := Lib.hid hx
      have HP := Lib.hid hp
      have hkI : (k : Int) < (n : Int) := by omega
      have hk6 : k + 1 ≤ 1000000000000 := by have := HN.out; omega
      have HXR := Lib.hid hxx
      clear hC hx hp hxr hxx
      by_cases o4 : x.op = 4
      · rw [o4] at d0
        have hax : IntKind.i64.wrap (x.x + k0) = x.x + k0 := IntWalk.i64_in _ (by have := HXR.out.1 (.inl o4); have := HK0.out; omega)
        have HO4 := Lib.hid o4
        clear o4 hwx
        go_upto_region 10 with fail
        have hb1 := (Below.refl wr.heap.size wr).alloc (Nat.le_refl _) (.cells #[.int .i8 4, .int .u64 (p0 : Int), .int .u64 (p1 : Int), .int .u64 (p2 : Int), .int .u64 (p3 : Int), .int .i64 (x.x + k0), .int .i64 x.y] TI)
        have HO1 := Lib.hid (own_belowI HO.out hb1)
        have HB1 := Lib.hid (HBW.out.trans (hb1.mono HBW.out.size))
        have hsz := HB1.out.size
        have HPL := Lib.hid (show placeI k0 x = ⟨4, [p0, p1, p2, p3], (x.x + k0), x.y⟩ by
          unfold placeI
          rw [HO4.out, HP.out, if_pos (.inl rfl), if_neg (by decide)])
        have hA := At.new wr TI [.int .i8 4, .int .u64 (p0 : Int), .int .u64 (p1 : Int), .int .u64 (p2 : Int), .int .u64 (p3 : Int), .int .i64 (x.x + k0), .int .i64 x.y]
        have g0 : (wr.alloc (.cells #[.int .i8 4, .int .u64 (p0 : Int), .int .u64 (p1 : Int), .int .u64 (p2 : Int), .int .u64 (p3 : Int), .int .i64 (x.x + k0), .int .i64 x.y] TI)).cell? ⟨wr.heap.size, 0, none⟩ = some (.int .i8 4) := hA.cell 0
        have g1 : (wr.alloc (.cells #[.int .i8 4, .int .u64 (p0 : Int), .int .u64 (p1 : Int), .int .u64 (p2 : Int), .int .u64 (p3 : Int), .int .i64 (x.x + k0), .int .i64 x.y] TI)).cell? ⟨wr.heap.size, 1, none⟩ = some (.int .u64 (p0 : Int)) := hA.cell 1
        have g2 : (wr.alloc (.cells #[.int .i8 4, .int .u64 (p0 : Int), .int .u64 (p1 : Int), .int .u64 (p2 : Int), .int .u64 (p3 : Int), .int .i64 (x.x + k0), .int .i64 x.y] TI)).cell? ⟨wr.heap.size, 2, none⟩ = some (.int .u64 (p1 : Int)) := hA.cell 2
        have g3 : (wr.alloc (.cells #[.int .i8 4, .int .u64 (p0 : Int), .int .u64 (p1 : Int), .int .u64 (p2 : Int), .int .u64 (p3 : Int), .int .i64 (x.x + k0), .int .i64 x.y] TI)).cell? ⟨wr.heap.size, 3, none⟩ = some (.int .u64 (p2 : Int)) := hA.cell 3
        have g4 : (wr.alloc (.cells #[.int .i8 4, .int .u64 (p0 : Int), .int .u64 (p1 : Int), .int .u64 (p2 : Int), .int .u64 (p3 : Int), .int .i64 (x.x + k0), .int .i64 x.y] TI)).cell? ⟨wr.heap.size, 4, none⟩ = some (.int .u64 (p3 : Int)) := hA.cell 4
        have g5 : (wr.alloc (.cells #[.int .i8 4, .int .u64 (p0 : Int), .int .u64 (p1 : Int), .int .u64 (p2 : Int), .int .u64 (p3 : Int), .int .i64 (x.x + k0), .int .i64 x.y] TI)).cell? ⟨wr.heap.size, 5, none⟩ = some (.int .i64 (x.x + k0)) := hA.cell 5
        have g6 : (wr.alloc (.cells #[.int .i8 4, .int .u64 (p0 : Int), .int .u64 (p1 : Int), .int .u64 (p2 : Int), .int .u64 (p3 : Int), .int .i64 (x.x + k0), .int .i64 x.y] TI)).cell? ⟨wr.heap.size, 6, none⟩ = some (.int .i64 x.y) := hA.cell 6
        clear hb1 hA
        generalize wr.alloc (.cells #[.int .i8 4, .int .u64 (p0 : Int), .int .u64 (p1 : Int), .int .u64 (p2 : Int), .int .u64 (p3 : Int), .int .i64 (x.x + k0), .int .i64 x.y] TI) = w1 at g0 g1 g2 g3 g4 g5 g6 HO1 HB1 hsz ⊢
        generalize wr.heap.size = x7 at g0 g1 g2 g3 g4 g5 g6 ⊢
        go_wp2_with (at_builtin; refine wpList_appI (w := w1) rfl (.tmp 42) (.tmp 44) rfl W.heap.size _ k _ ⟨4, [p0, p1, p2, p3], (x.x + k0), x.y⟩ _ rfl rfl rfl HO1.out rfl hk6 hsz ?_)
        intro g cap w2 ho2 hp2
        have HO2 := Lib.hid ho2
        have HB2 := Lib.hid (hp2.bel _ _ HB1.out (Nat.le_refl _))
        clear ho2 hp2 hsz
        go_wp2_with fail
        go_roundw
        case rel =>
          refine ⟨k + 1, hkl, by go_num, ?_, HB2.out⟩
          rw [placedM_snoc k0 M k x HX.out, HPL.out]
          exact HO2.out
        case measure => simp [intOf]; omega
      by_cases o5 : x.op = 5
      · rw [o5] at d0
        have hax : IntKind.i64.wrap (x.x + k0) = x.x + k0 := IntWalk.i64_in _ (by have := HXR.out.1 (.inr o5); have := HK0.out; omega)
        have hay : IntKind.i64.wrap (x.y + k0) = x.y + k0 := IntWalk.i64_in _ (by have := HXR.out.2 o5; have := HK0.out; omega)
        have HO5 := Lib.hid o5
        clear o5 o4 hwx
        go_upto_region 10 with fail
        have hb1 := (Below.refl wr.heap.size wr).alloc (Nat.le_refl _) (.cells #[.int .i8 5, .int .u64 (p0 : Int), .int .u64 (p1 : Int), .int .u64 (p2 : Int), .int .u64 (p3 : Int), .int .i64 (x.x + k0), .int .i64 (x.y + k0)] TI)
        have HO1 := Lib.hid (own_belowI HO.out hb1)
        have HB1 := Lib.hid (HBW.out.trans (hb1.mono HBW.out.size))
        have hsz := HB1.out.size
        have HPL := Lib.hid (show placeI k0 x = ⟨5, [p0, p1, p2, p3], (x.x + k0), (x.y + k0)⟩ by
          unfold placeI
          rw [HO5.out, HP.out, if_pos (.inr rfl), if_pos rfl])
        have hA := At.new wr TI [.int .i8 5, .int .u64 (p0 : Int), .int .u64 (p1 : Int), .int .u64 (p2 : Int), .int .u64 (p3 : Int), .int .i64 (x.x + k0), .int .i64 (x.y + k0)]
        have g0 : (wr.alloc (.cells #[.int .i8 5, .int .u64 (p0 : Int), .int .u64 (p1 : Int), .int .u64 (p2 : Int), .int .u64 (p3 : Int), .int .i64 (x.x + k0), .int .i64 (x.y + k0)] TI)).cell? ⟨wr.heap.size, 0, none⟩ = some (.int .i8 5) := hA.cell 0
        have g1 : (wr.alloc (.cells #[.int .i8 5, .int .u64 (p0 : Int), .int .u64 (p1 : Int), .int .u64 (p2 : Int), .int .u64 (p3 : Int), .int .i64 (x.x + k0), .int .i64 (x.y + k0)] TI)).cell? ⟨wr.heap.size, 1, none⟩ = some (.int .u64 (p0 : Int)) := hA.cell 1
        have g2 : (wr.alloc (.cells #[.int .i8 5, .int .u64 (p0 : Int), .int .u64 (p1 : Int), .int .u64 (p2 : Int), .int .u64 (p3 : Int), .int .i64 (x.x + k0), .int .i64 (x.y + k0)] TI)).cell? ⟨wr.heap.size, 2, none⟩ = some (.int .u64 (p1 : Int)) := hA.cell 2
        have g3 : (wr.alloc (.cells #[.int .i8 5, .int .u64 (p0 : Int), .int .u64 (p1 : Int), .int .u64 (p2 : Int), .int .u64 (p3 : Int), .int .i64 (x.x + k0), .int .i64 (x.y + k0)] TI)).cell? ⟨wr.heap.size, 3, none⟩ = some (.int .u64 (p2 : Int)) := hA.cell 3
        have g4 : (wr.alloc (.cells #[.int .i8 5, .int .u64 (p0 : Int), .int .u64 (p1 : Int), .int .u64 (p2 : Int), .int .u64 (p3 : Int), .int .i64 (x.x + k0), .int .i64 (x.y + k0)] TI)).cell? ⟨wr.heap.size, 4, none⟩ = some (.int .u64 (p3 : Int)) := hA.cell 4
        have g5 : (wr.alloc (.cells #[.int .i8 5, .int .u64 (p0 : Int), .int .u64 (p1 : Int), .int .u64 (p2 : Int), .int .u64 (p3 : Int), .int .i64 (x.x + k0), .int .i64 (x.y + k0)] TI)).cell? ⟨wr.heap.size, 5, none⟩ = some (.int .i64 (x.x + k0)) := hA.cell 5
        have g6 : (wr.alloc (.cells #[.int .i8 5, .int .u64 (p0 : Int), .int .u64 (p1 : Int), .int .u64 (p2 : Int), .int .u64 (p3 : Int), .int .i64 (x.x + k0), .int .i64 (x.y + k0)] TI)).cell? ⟨wr.heap.size, 6, none⟩ = some (.int .i64 (x.y + k0)) := hA.cell 6
        clear hb1 hA
        generalize wr.alloc (.cells #[.int .i8 5, .int .u64 (p0 : Int), .int .u64 (p1 : Int), .int .u64 (p2 : Int), .int .u64 (p3 : Int), .int .i64 (x.x + k0), .int .i64 (x.y + k0)] TI) = w1 at g0 g1 g2 g3 g4 g5 g6 HO1 HB1 hsz ⊢
        generalize wr.heap.size = x7 at g0 g1 g2 g3 g4 g5 g6 ⊢
        go_wp2_with (at_builtin; refine wpList_appI (w := w1) rfl (.tmp 42) (.tmp 44) rfl W.heap.size _ k _ ⟨5, [p0, p1, p2, p3], (x.x + k0), (x.y + k0)⟩ _ rfl rfl rfl HO1.out rfl hk6 hsz ?_)
        intro g cap w2 ho2 hp2
        have HO2 := Lib.hid ho2
        have HB2 := Lib.hid (hp2.bel _ _ HB1.out (Nat.le_refl _))
        clear ho2 hp2 hsz
        go_wp2_with fail
        go_roundw
        case rel =>
          refine ⟨k + 1, hkl, by go_num, ?_, HB2.out⟩
          rw [placedM_snoc k0 M k x HX.out, HPL.out]
          exact HO2.out
        case measure => simp [intOf]; omega
      have e4 : (x.op == 4) = false := beq_eq_false_iff_ne.2 o4
      have e5 : (x.op == 5) = false := beq_eq_false_iff_ne.2 o5
      have HO45 := Lib.hid (And.intro o4 o5)
      clear o4 o5
      go_upto_region 10 with fail
      have hb1 := (Below.refl wr.heap.size wr).alloc (Nat.le_refl _) (.cells #[.int .i8 x.op, .int .u64 (p0 : Int), .int .u64 (p1 : Int), .int .u64 (p2 : Int), .int .u64 (p3 : Int), .int .i64 x.x, .int .i64 x.y] TI)
      have HO1 := Lib.hid (own_belowI HO.out hb1)
      have HB1 := Lib.hid (HBW.out.trans (hb1.mono HBW.out.size))
      have hsz := HB1.out.size
      have HPL := Lib.hid (show placeI k0 x = ⟨x.op, [p0, p1, p2, p3], x.x, x.y⟩ by
        unfold placeI
        rw [HP.out, if_neg (by have := HO45.out; omega), if_neg HO45.out.2])
      have hA := At.new wr TI [.int .i8 x.op, .int .u64 (p0 : Int), .int .u64 (p1 : Int), .int .u64 (p2 : Int), .int .u64 (p3 : Int), .int .i64 x.x, .int .i64 x.y]
      have g0 : (wr.alloc (.cells #[.int .i8 x.op, .int .u64 (p0 : Int), .int .u64 (p1 : Int), .int .u64 (p2 : Int), .int .u64 (p3 : Int), .int .i64 x.x, .int .i64 x.y] TI)).cell? ⟨wr.heap.size, 0, none⟩ = some (.int .i8 x.op) := hA.cell 0
      have g1 : (wr.alloc (.cells #[.int .i8 x.op, .int .u64 (p0 : Int), .int .u64 (p1 : Int), .int .u64 (p2 : Int), .int .u64 (p3 : Int), .int .i64 x.x, .int .i64 x.y] TI)).cell? ⟨wr.heap.size, 1, none⟩ = some (.int .u64 (p0 : Int)) := hA.cell 1
      have g2 : (wr.alloc (.cells #[.int .i8 x.op, .int .u64 (p0 : Int), .int .u64 (p1 : Int), .int .u64 (p2 : Int), .int .u64 (p3 : Int), .int .i64 x.x, .int .i64 x.y] TI)).cell? ⟨wr.heap.size, 2, none⟩ = some (.int .u64 (p1 : Int)) := hA.cell 2
      have g3 : (wr.alloc (.cells #[.int .i8 x.op, .int .u64 (p0 : Int), .int .u64 (p1 : Int), .int .u64 (p2 : Int), .int .u64 (p3 : Int), .int .i64 x.x, .int .i64 x.y] TI)).cell? ⟨wr.heap.size, 3, none⟩ = some (.int .u64 (p2 : Int)) := hA.cell 3
      have g4 : (wr.alloc (.cells #[.int .i8 x.op, .int .u64 (p0 : Int), .int .u64 (p1 : Int), .int .u64 (p2 : Int), .int .u64 (p3 : Int), .int .i64 x.x, .int .i64 x.y] TI)).cell? ⟨wr.heap.size, 4, none⟩ = some (.int .u64 (p3 : Int)) := hA.cell 4
      have g5 : (wr.alloc (.cells #[.int .i8 x.op, .int .u64 (p0 : Int), .int .u64 (p1 : Int), .int .u64 (p2 : Int), .int .u64 (p3 : Int), .int .i64 x.x, .int .i64 x.y] TI)).cell? ⟨wr.heap.size, 5, none⟩ = some (.int .i64 x.x) := hA.cell 5
      have g6 : (wr.alloc (.cells #[.int .i8 x.op, .int .u64 (p0 : Int), .int .u64 (p1 : Int), .int .u64 (p2 : Int), .int .u64 (p3 : Int), .int .i64 x.x, .int .i64 x.y] TI)).cell? ⟨wr.heap.size, 6, none⟩ = some (.int .i64 x.y) := hA.cell 6
      clear hb1 hA
      generalize wr.alloc (.cells #[.int .i8 x.op, .int .u64 (p0 : Int), .int .u64 (p1 : Int), .int .u64 (p2 : Int), .int .u64 (p3 : Int), .int .i64 x.x, .int .i64 x.y] TI) = w1 at g0 g1 g2 g3 g4 g5 g6 HO1 HB1 hsz ⊢
      generalize wr.heap.size = x7 at g0 g1 g2 g3 g4 g5 g6 ⊢
      go_wp2_with (at_builtin; refine wpList_appI (w := w1) rfl (.tmp 42) (.tmp 44) rfl W.heap.size _ k _ ⟨x.op, [p0, p1, p2, p3], x.x, x.y⟩ _ rfl rfl rfl HO1.out rfl hk6 hsz ?_)
      intro g cap w2 ho2 hp2
      have HO2 := Lib.hid ho2
      have HB2 := Lib.hid (hp2.bel _ _ HB1.out (Nat.le_refl _))
      clear ho2 hp2 hsz
      go_wp2_with fail
      go_roundw
      case rel =>
        refine ⟨k + 1, hkl, by go_num, ?_, HB2.out⟩
        rw [placedM_snoc k0 M k x HX.out, HPL.out]
        exact HO2.out
      case measure => simp [intOf]; omega
    · obtain rfl : k = n := by omega
      have hkI : ¬ (k : Int) < (k : Int) := by omega
      obtain ⟨va, vc, hv⟩ := own_shape HO.out
      subst hv
      go_wp2_with fail
      go_ret
      refine ⟨_, rfl, ?_, HBW.out⟩
      have h := HO.out
      have ht : M.take k = M := by rw [← HL.out, List.take_length]
      rw [ht] at h
      rw [HL.out]
      exact h
end Go.Proofs.Ytfmcjmkdlldlhaa
