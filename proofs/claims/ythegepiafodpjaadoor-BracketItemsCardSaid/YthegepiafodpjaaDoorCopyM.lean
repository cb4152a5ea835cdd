/-
  galleyref00.CopyMarks.
-/
import Derived.Test.YthegepiafodpjaaDoorOwnM
import Derived.Test.YthegepiafodpjaaDoorApp
namespace Go.Proofs.YthegepiafodpjaaDoor
open Go.RowKit

theorem SM.newsM {w : World} {ad : Addr} {n c : Nat} {l : List Mk} (h : SM w (.slice (some ad) n c) l) : l.length = n ∧ ∀ j u, (mkCells l)[j]? = some u → w.cell? (ad.add j) = some u := by
  obtain ⟨_, _, _, he, _, h3⟩ := h
  simp only [Value.slice.injEq] at he
  obtain ⟨ha, hn, _⟩ := he
  refine ⟨hn.symm, fun j u hj => ?_⟩
  rcases h3 with rfl | ⟨b, o, hb, hc⟩
  · simp [mkCells] at hj
  · have hlt : j < (mkCells l).length := (List.getElem?_eq_some_iff.1 hj).1
    rw [mkCells_len] at hlt
    have e := ha.trans hb
    simp only [Option.some.injEq] at e
    subst e
    have hi : j / 2 < l.length := by omega
    obtain ⟨g1, g2⟩ := mkCells_get l (j / 2) hi
    obtain ⟨c1, c2⟩ := hc (j / 2) hi
    rw [show (⟨b, o, none⟩ : Addr).add j = ⟨b, o + j, none⟩ by simp [Addr.add]]
    rcases Nat.mod_two_eq_zero_or_one j with e | e
    · have ej : j / 2 * 2 = j := by omega
      rw [ej] at g1 c1
      rw [c1, ← g1, hj]
    · have ej : j / 2 * 2 + 1 = j := by omega
      rw [ej] at g2
      rw [Nat.add_assoc, ej] at c2
      rw [c2, ← g2, hj]
def TwinM (w : World) (l : List Mk) (e : Ending) (w' : World) : Prop := ∃ v, e = .returned v ∧ OwnM w' w.heap.size v l ∧ Below w.heap.size w w'
set_option maxHeartbeats 400000 in
theorem copyM_any (w : World) (ad : Addr) (n c : Nat) (l : List Mk) (hb : SM w (.slice (some ad) n c) l) : Calls Tryd.prog 15 #[.slice (some ad) n c] w (TwinM w l) := by
  obtain ⟨i0, hi, hz0, hz1, hz2⟩ := info_parts infoM
  obtain ⟨hl, hn⟩ := hb.len
  obtain ⟨-, hnews⟩ := hb.newsM
  have HB := Lib.hid hnews
  have HL := Lib.hid hl
  have hml : (mkCells l).length = n * 2 := by rw [mkCells_len, hl]
  clear hnews hb hl
  go_enter Tryd.func15, Tryd.ntmps15
  go_wp2_with (at_builtin; refine wpList_append_own_at _ rfl (.tmp 4) (.tmp 5) 22 rfl w.heap.size 35 i0 (.agg #[.int .u8 0, .bool false]) 2 2 Tryd.underlying22 hi hz0 hz1 hz2 rfl (by decide) _ 0 [] rfl (World.ownsRow_nil _ _ _ _) ad n c (mkCells l) rfl hml HB.out (mkCells_one l) (by unfold maxLen; omega) (by omega) (Nat.le_refl _) ?_)
  intro v' w1 hown hgrow _ _
  have HO : Hid (OwnM w1 w.heap.size v' l) := Lib.hid (by
    unfold OwnM
    rw [HL.out]
    simpa using hown)
  have HB1 := Lib.hid ((Below.refl _ w).grown hgrow (Nat.le_refl _) (fun k h => by simp [Value.ownBlock] at h))
  clear hown hgrow hml
  go_wp2_with fail
  go_ret
  exact ⟨_, rfl, HO.out, HB1.out⟩
end Go.Proofs.YthegepiafodpjaaDoor
