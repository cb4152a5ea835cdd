/-
  galleyref00.CopyBytes: a twin of a list of bytes.
-/
import Derived.Test.YtfmcjmkdlldlhaaBytes
namespace Go.Proofs.Ytfmcjmkdlldlhaa
open Go.RowKit

set_option maxHeartbeats 400000 in
theorem copy_any (w : World) (v : Value) (l : List Int) (hb : SB w v l) : Calls Try.prog 16 #[v] w (TwinPost w l) := by
  obtain ⟨i0, hi, hz0, hz1, hz2⟩ := info_parts infoB
  obtain ⟨hB, a, c, rfl, hl, hc⟩ := id hb
  rcases hc with rfl | ⟨b, o, rfl, hc⟩
  · cases a with
    | none =>
      go_enter Try.func16, Try.ntmps16
      go_wp2
      go_ret
      exact ⟨_, rfl, OwnB.nil _ _, Below.refl _ _⟩
    | some ad =>
      clear hb hB
      go_enter Try.func16, Try.ntmps16
      go_wp2_with (at_builtin; refine wpList_append_own _ rfl _ _ 23 rfl w.heap.size 5 i0 (.int .u8 0) 1 1 Try.underlying23 hi hz0 hz1 hz2 rfl (by decide) _ _ _ rfl (World.ownsRow_nil _ _ _ _) ad 0 c [] rfl rfl (fun j u h => by simp at h) (fun u h => by simp at h) (by decide) (by decide) (Nat.le_refl _) ?_)
      intro v' w1 hown hgrow _
      go_wp2
      go_ret
      exact ⟨_, rfl, hown, (Below.refl _ w).grown hgrow (Nat.le_refl _) (fun k h => by simp [Value.ownBlock] at h)⟩
  · have HC := Lib.hid hc
    clear hc hb hB
    go_enter Try.func16, Try.ntmps16
    go_wp2_with (at_builtin; refine wpList_append_own _ rfl _ _ 23 rfl w.heap.size 5 i0 (.int .u8 0) 1 1 Try.underlying23 hi hz0 hz1 hz2 rfl (by decide) _ _ _ rfl (World.ownsRow_nil _ _ _ _) ⟨b, o, none⟩ l.length c (l.map (Value.int .u8)) rfl (by rw [List.length_map, Nat.mul_one]) (sb_cells HC.out rfl) (bytes_one l) (by unfold maxLen; omega) (by omega) (Nat.le_refl _) ?_)
    intro v' w1 hown hgrow _
    go_wp2
    go_ret
    refine ⟨_, rfl, ?_, (Below.refl _ w).grown hgrow (Nat.le_refl _) (fun k h => by simp [Value.ownBlock] at h)⟩
    simpa [OwnB] using hown
end Go.Proofs.Ytfmcjmkdlldlhaa
