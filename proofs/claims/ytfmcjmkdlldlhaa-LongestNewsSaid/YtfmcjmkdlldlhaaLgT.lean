/-
  galleylaw08.anchored: has the machine an instruction of this kind?
-/
import Derived.Test.YtfmcjmkdlldlhaaLgN
namespace Go.Proofs.Ytfmcjmkdlldlhaa
open Go.RowKit
attribute [local go_sem] Oper.semAt_some

theorem anchored_any (W : World) (M : List Ins) (a : Option Addr) (n c : Nat) (h : MI W a n c M) (hn : n ≤ 1048576) (hop : ∀ x ∈ M, -128 ≤ x.op ∧ x.op ≤ 127) (o : Int) (ho1 : -128 ≤ o) (ho2 : o ≤ 127) :
    Calls Try.prog 22 #[.slice a n c, .int .i8 o] W fun e W' => e = .returned (.bool (M.any fun x => decide (x.op = o))) ∧ Below W.heap.size W W' := by
  have hlen : M.length = n := h.2.1
  have H := Lib.hid h
  have HOP := Lib.hid hop
  have hwo : wrap64 o = o := by unfold wrap64; omega
  clear hop
  have HL := Lib.hid hlen
  have HN := Lib.hid (show n ≤ 9223372036854775806 from by omega)
  clear h hlen
  go_enter Try.func22, Try.ntmps22
  go_wp2_with fail
  go_loopw [5] (fun i wr => ∃ k, k ≤ n ∧ i = .int .i64 k ∧ Below W.heap.size W wr ∧ (M.take k).any (fun x => decide (x.op = o)) = false) (fun i _ => n - (intOf i).toNat)
  case atStart => exact ⟨0, Nat.zero_le _, rfl, Below.refl _ _, rfl⟩
  case round =>
    obtain ⟨k, hk, rfl, hbw, hall⟩ := hrel
    have HBW := Lib.hid hbw
    have HA := Lib.hid hall
    clear hbw hall
    by_cases hkl : k < n
    · obtain ⟨x, hx⟩ : ∃ x, M[k]? = some x := ⟨M[k]'(by rw [HL.out]; exact hkl), List.getElem?_eq_getElem _⟩
      have hC := H.out.1 x (List.mem_of_getElem? hx)
      obtain ⟨p0, p1, p2, p3, hp⟩ := isC_words x.set hC
      obtain ⟨b, off, rfl, d0, d1, d2, d3, d4, d5, d6⟩ := (H.out.below HBW.out).instr hx hp
      have hxr := HOP.out x (List.mem_of_getElem? hx)
      have hwx : wrap64 x.op = x.op := by unfold wrap64; omega
      have hkw : IntKind.i64.wrap ((k : Int) + 1) = (k : Int) + 1 := IntWalk.i64_in _ (by have := HN.out; omega)
      have HX := Lib.hid hx
      have hkI : (k : Int) < (n : Int) := by omega
      clear hC hx hp
      by_cases ho : x.op = o
      · have HO := Lib.hid ho
        rw [ho] at d0
        clear ho
        go_wp2_with fail
        go_ret
        have hb : (M.any fun x => decide (x.op = o)) = true := List.any_eq_true.2 ⟨x, List.mem_of_getElem? HX.out, decide_eq_true HO.out⟩
        exact ⟨by rw [hb]; rfl, HBW.out⟩
      · have HO := Lib.hid ho
        have e1 : (x.op == o) = false := beq_eq_false_iff_ne.2 ho
        clear ho
        go_wp2_with fail
        go_roundw
        case rel =>
          refine ⟨k + 1, hkl, by go_num, HBW.out, ?_⟩
          have hg := List.getElem?_eq_some_iff.1 HX.out
          rw [List.take_succ_eq_append_getElem hg.1, hg.2, List.any_append, HA.out]
          simp [HO.out]
        case measure => simp [intOf]; omega
    · have e0 : k = n := by omega
      have HE := Lib.hid e0
      clear e0
      have hkI : ¬ (k : Int) < (n : Int) := by omega
      go_wp2_with fail
      go_ret
      have hb : (M.any fun x => decide (x.op = o)) = false := by
        have h := HA.out
        rw [HE.out, ← HL.out, List.take_length] at h
        exact h
      exact ⟨by rw [hb]; rfl, HBW.out⟩
end Go.Proofs.Ytfmcjmkdlldlhaa
