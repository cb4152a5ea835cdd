/-
  galleylaw08.one: the class of one byte.
-/
import Derived.Test.YtfmcjmkdlldlhaaDoorCls
namespace Go.Proofs.YtfmcjmkdlldlhaaDoor
open Go.RowKit

theorem heap_alloc2a (w : World) (o1 o2 : Obj) : ((w.alloc o1).alloc o2).heap[w.heap.size]? = some o1 :=
  (((Below.refl (w.alloc o1).heap.size _).alloc (Nat.le_refl _) o2).block _ (by rw [World.size_alloc]; omega)).trans (heap_alloc_new w o1)
set_option maxHeartbeats 400000 in
theorem one_any (w : World) (x : Nat) (hx : x < 256) :
    Calls Tryd.prog 23 #[.int .u8 (x : Int)] w fun e w' => e = .returned (.agg (row64 (withL noneL x))) ∧ Below w.heap.size w w' := by
  have hp := wrap_pow x
  have hq : withL noneL x = noneL.set (x / 64) (2 ^ (x % 64)) := by
    unfold withL
    have : noneL[x / 64]?.getD 0 = 0 := by
      have h4 : x / 64 = 0 ∨ x / 64 = 1 ∨ x / 64 = 2 ∨ x / 64 = 3 := by omega
      rcases h4 with h4 | h4 | h4 | h4 <;> rw [h4] <;> rfl
    rw [this, Nat.zero_or]
  rw [hq]
  clear hq
  generalize (2 : Nat) ^ (x % 64) = y at hp ⊢
  have h4 : x / 64 = 0 ∨ x / 64 = 1 ∨ x / 64 = 2 ∨ x / 64 = 3 := by omega
  rcases h4 with h4 | h4 | h4 | h4
  all_goals
    rw [h4]
    show Calls _ _ _ _ fun e w' => e = .returned (.agg (row64 _)) ∧ _
    go_enter Tryd.func23, Tryd.ntmps23
    go_wp2
    exact ret_cls rfl rfl (heap_alloc2a _ _ _) Tryd.underlying41 rfl infoC rfl ⟨rfl, below_alloc2 _ _ _⟩
end Go.Proofs.YtfmcjmkdlldlhaaDoor
