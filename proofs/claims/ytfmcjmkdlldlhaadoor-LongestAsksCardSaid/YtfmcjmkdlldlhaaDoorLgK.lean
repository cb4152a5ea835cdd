/-
  slices.Clone of a list of instructions.
-/
import Derived.Test.YtfmcjmkdlldlhaaDoorLgN
import Derived.Test.YtfmcjmkdlldlhaaDoorLgA
namespace Go.Proofs.YtfmcjmkdlldlhaaDoor
open Go.RowKit

theorem infoI : (Tryd.prog.info? TI).map (fun i => (i.zero, i.size, i.bytes)) = some (some (.agg #[.int .i8 0, .int .u64 0, .int .u64 0, .int .u64 0, .int .u64 0, .int .i64 0, .int .i64 0]), 7, 56) := by kernel_rfl
theorem cellsI_one (M : List Ins) : ∀ u ∈ cellsI M, u.oneCell' = true := by
  intro u hu
  simp only [cellsI, List.mem_flatMap] at hu
  obtain ⟨x, _, hu⟩ := hu
  simp only [encI, List.mem_cons, List.not_mem_nil, or_false] at hu
  rcases hu with rfl | rfl | rfl | rfl | rfl | rfl | rfl <;> rfl
theorem MI.news {W : World} {ad : Addr} {n c : Nat} {M : List Ins} (h : MI W (some ad) n c M) : ∀ j u, (cellsI M)[j]? = some u → W.cell? (ad.add j) = some u := by
  obtain ⟨_, _, _, _, h5⟩ := h
  intro j u hj
  rcases h5 with rfl | ⟨b, off, ha, hc⟩
  · simp [cellsI] at hj
  · simp only [Option.some.injEq] at ha
    subst ha
    have hj7 : j < M.length * 7 := by rw [← cellsI_len]; exact (List.getElem?_eq_some_iff.1 hj).1
    have hi : j / 7 < M.length := by omega
    have hx : M[j / 7]? = some (M[j / 7]'hi) := List.getElem?_eq_getElem hi
    have h := hc (j / 7) _ hx (j % 7) (Nat.mod_lt _ (by omega))
    have hg := cellsI_get (Nat.mod_lt j (by omega : 0 < 7)) hx
    have hjj : j / 7 * 7 + j % 7 = j := by omega
    rw [hjj, hj] at hg
    rw [show off + j / 7 * 7 + j % 7 = off + j by omega, ← hg] at h
    rw [show (⟨b, off, none⟩ : Addr).add j = ⟨b, off + j, none⟩ by simp [Addr.add]]
    exact h
theorem eqNilI (w : World) (b : Addr) (n c : Nat) : Sem.run Tryd.prog (binOp .eql 22 (.slice (some b) n c) (.slice none 0 0)) w = .ok (.bool false) w := by kernel_rfl
theorem eqNilI0 (w : World) : Sem.run Tryd.prog (binOp .eql 22 (.slice none 0 0) (.slice none 0 0)) w = .ok (.bool true) w := by kernel_rfl
set_option maxRecDepth 100000 in
theorem clone_I (w : World) (a : Option Addr) (n c : Nat) (M : List Ins) (h : MI w a n c M) (hn65 : n ≤ 65540) : Calls Tryd.prog 25 #[.slice a n c] w fun e w' => ∃ v, e = .returned v ∧ w'.ownsRow w.heap.size TI 7 v M.length (cellsI M) ∧ Below w.heap.size w w' := by
  obtain ⟨i0, hi, hz0, hz1, hz2⟩ := info_parts infoI
  have hl := h.2.1
  have hnc := h.2.2.1
  have hN := h.2.2.2.1
  cases a with
  | none =>
    have hc := hN rfl
    subst hc
    have hn0 : n = 0 := by omega
    subst hn0
    have : M = [] := List.eq_nil_of_length_eq_zero hl
    subst this
    have heq := eqNilI0 w
    clear h hN
    go_enter Tryd.func25, Tryd.ntmps25
    go_wp2_with fail
    go_ret
    exact ⟨_, rfl, World.ownsRow_nil _ _ _ _, Below.refl _ _⟩
  | some ad =>
    have hnews := h.news
    have HL := Lib.hid hl
    have hml : (cellsI M).length = n * 7 := by rw [cellsI_len, hl]
    have heq := eqNilI w ad n c
    have HZ : Hid ((w.alloc (.cells #[] TI)).ownsRow w.heap.size TI 7 (.slice (some ⟨w.heap.size, 0, none⟩) 0 0) 0 []) := Lib.hid (World.ownsRow_made w #[] 0 (Nat.le_refl _) (Nat.zero_le _) rfl)
    have HB1 : Hid (∀ j u, (cellsI M)[j]? = some u → (w.alloc (.cells #[] TI)).cell? (ad.add j) = some u) := Lib.hid fun j u hj => by
      have := hnews j u hj
      exact ((Below.refl w.heap.size w).alloc (Nat.le_refl _) (.cells #[] TI)).cell (World.block_lt_of_cell? w _ this) |>.trans this
    clear h hN hnews hl
    go_enter Tryd.func25, Tryd.ntmps25
    go_wp2_with (at_builtin; refine wpList_append_own_at _ rfl (.tmp 5) (.tmp 6) 22 rfl w.heap.size TI i0 (.agg #[.int .i8 0, .int .u64 0, .int .u64 0, .int .u64 0, .int .u64 0, .int .i64 0, .int .i64 0]) 7 56 Tryd.underlying22 hi hz0 hz1 hz2 rfl (by decide) _ 0 [] rfl HZ.out ad n c (cellsI M) rfl hml HB1.out (cellsI_one M) (by unfold maxLen; omega) (by omega) (by simp) ?_)
    intro v' w1 hown hgrow _ _
    have HO : Hid (w1.ownsRow w.heap.size TI 7 v' M.length (cellsI M)) := Lib.hid (by
      rw [HL.out]
      simpa using hown)
    have HB2 := Lib.hid ((((Below.refl _ w).alloc (Nat.le_refl _) _).grown hgrow (by simp) (fun k h => by simp [Value.ownBlock] at h; omega)))
    obtain ⟨av, cv, hv⟩ := own_shape hown
    subst hv
    clear hown hgrow hml heq
    go_wp2_with fail
    go_ret
    exact ⟨_, rfl, by simpa using HO.out, HB2.out⟩
end Go.Proofs.YtfmcjmkdlldlhaaDoor
