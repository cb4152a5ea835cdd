/-
  Cuts of a list of bools; Long of any number.
-/
import Derived.Test.YtfmcjmkdlldlhaaLgFa
import Derived.Test.YtfmcjmkdlldlhaaLgT
namespace Go.Proofs.Ytfmcjmkdlldlhaa
open Go.RowKit

theorem sizeBo (w : World) : (sizeOf (Try.prog.elem 39)).run Try.prog w = .ok 1 w := by kernel_rfl
theorem elemBo : Try.prog.underlying 39 = some (.slice (Try.prog.elem 39)) := by kernel_rfl
/-- l[lo:]. -/
theorem bsb_from {w : World} {g N : Nat} {l : List Bool} (h : BSb w (.slice (some ⟨g, 0, none⟩) N N) l) (lo : Nat) (hlo : lo < N) :
    (∀ W, (Instr.slice 39 (.slice (some ⟨g, 0, none⟩) N N) (some (.int .i64 lo)) none none).run Try.prog W = .ok (.slice (some ⟨g, lo, none⟩) (N - lo) (N - lo)) W) ∧ BSb w (.slice (some ⟨g, lo, none⟩) (N - lo) (N - lo)) (l.drop lo) := by
  obtain ⟨a, c, he, hl, hc⟩ := h
  simp only [Value.slice.injEq] at he
  obtain ⟨rfl, rfl, rfl⟩ := he
  refine ⟨fun W => ?_, some ⟨g, lo, none⟩, l.length - lo, by rw [List.length_drop], by rw [List.length_drop]; omega, .inr ⟨g, lo, rfl, fun i hi => ?_⟩⟩
  · rw [run_slice_l W 39 (some ⟨g, 0, none⟩) l.length l.length elemBo .i64 lo (by omega) (by omega), sizeBo]
    show Result.ok (sliced (some ⟨g, 0, none⟩) (Int.toNat (lo : Int)) l.length l.length 1) W = _
    unfold sliced
    rw [Int.toNat_natCast, if_neg (by omega)]
    simp [Addr.add]
    intro h
    exact h.symm
  · rw [List.length_drop] at hi
    rcases hc with rfl | ⟨b, o, hb, hc⟩
    · simp at hi
    · simp only [Option.some.injEq, Addr.mk.injEq, and_true] at hb
      obtain ⟨rfl, rfl⟩ := hb
      have := hc (lo + i) (by omega)
      rw [Nat.zero_add] at this
      rw [this, List.getElem?_drop]
/-- l[:hi]. -/
theorem bsb_upto {w : World} {g N : Nat} {l : List Bool} (h : BSb w (.slice (some ⟨g, 0, none⟩) N N) l) (hi : Nat) (hhi : hi ≤ N) (h0 : 0 < N) :
    (∀ W, (Instr.slice 39 (.slice (some ⟨g, 0, none⟩) N N) none (some (.int .i64 hi)) none).run Try.prog W = .ok (.slice (some ⟨g, 0, none⟩) hi N) W) ∧ BSb w (.slice (some ⟨g, 0, none⟩) hi N) (l.take hi) := by
  obtain ⟨a, c, he, hl, hc⟩ := h
  simp only [Value.slice.injEq] at he
  obtain ⟨rfl, rfl, rfl⟩ := he
  have hlen : (l.take hi).length = hi := by rw [List.length_take]; omega
  refine ⟨fun W => ?_, some ⟨g, 0, none⟩, l.length, by rw [hlen], by omega, .inr ⟨g, 0, rfl, fun i hi' => ?_⟩⟩
  · rw [run_slice_h W 39 (some ⟨g, 0, none⟩) l.length l.length elemBo .i64 hi (by omega) (by omega), sizeBo]
    show Result.ok (sliced (some ⟨g, 0, none⟩) 0 (Int.toNat (hi : Int)) l.length 1) W = _
    unfold sliced
    rw [Int.toNat_natCast, if_neg (by omega)]
    simp [Addr.add]
  · rw [hlen] at hi'
    rcases hc with rfl | ⟨b, o, hb, hc⟩
    · simp at h0
    · simp only [Option.some.injEq, Addr.mk.injEq, and_true] at hb
      obtain ⟨rfl, rfl⟩ := hb
      rw [hc i (by omega), List.getElem?_take_of_lt hi']
theorem long_big (w : World) (n : Nat) : Calls Try.prog 9 #[.int .i64 n] w fun e w' => e = .returned (.bool (decide (2147483647 < n))) ∧ w = w' := by
  by_cases h : 2147483647 < n
  · have h1 : (2147483647 : Int) < (n : Int) := by omega
    have hd := Lib.hid (decide_eq_true h)
    clear h
    go_enter Try.func9, Try.ntmps9
    go_wp2
    go_ret
    exact ⟨ret_bool hd.out.symm, rfl⟩
  · have h1 : ¬ (2147483647 : Int) < (n : Int) := by omega
    have hd := Lib.hid (decide_eq_false h)
    clear h
    go_enter Try.func9, Try.ntmps9
    go_wp2
    go_ret
    exact ⟨ret_bool hd.out.symm, rfl⟩
end Go.Proofs.Ytfmcjmkdlldlhaa
