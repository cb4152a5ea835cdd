/-
  longest.New.
-/
import Derived.Test.YtfmcjmkdlldlhaaDoorLgC
import Derived.Test.YtfmcjmkdlldlhaaDoorLgK
import Derived.Test.YtfmcjmkdlldlhaaDoorLgR
namespace Go.Proofs.YtfmcjmkdlldlhaaDoor
open Go.RowKit
attribute [local go_sem] Oper.semAt_some

theorem own_base {W : World} {base base' e s n : Nat} {v : Value} {xs : List Value} (h : W.ownsRow base e s v n xs) (hb : base' ≤ base) : W.ownsRow base' e s v n xs :=
  ⟨h.1, h.2.imp_right fun ⟨g, cap, cur, h1, h2, h3⟩ => ⟨g, cap, cur, h1, Nat.le_trans hb h2, h3⟩⟩
theorem new_no (W : World) (M : List Ins) (a : Option Addr) (n c : Nat) (h : MI W a n c M) (hs : shapedM M = false) :
    Calls Tryd.prog 8 #[.slice a n c] W fun e W' => e = .returned (.tuple #[.pointer none, .int .i64 49]) ∧ Below W.heap.size W W' := by
  have hsh := shaped_any W M a n c h
  rw [hs] at hsh
  clear h hs
  go_enter Tryd.func8, Tryd.ntmps8
  go_wp2_with fail
  refine hsh.mono ?_
  rintro e w1 ⟨rfl, hb⟩
  have HB := Lib.hid hb
  clear hb hsh
  go_wp2_with fail
  go_ret2
  exact ⟨rfl, HB.out⟩
theorem new_yes (W : World) (M : List Ins) (a : Option Addr) (n c : Nat) (h : MI W a n c M) (hs : shapedM M = true) :
    Calls Tryd.prog 8 #[.slice a n c] W fun e W' => ∃ s, e = .returned (.tuple #[.pointer (some ⟨s.g, 0, none⟩), .int .i64 0]) ∧ s.steps = 0 ∧ Sob W' W.heap.size M s ∧ Below W.heap.size W W' := by
  have hsh := shaped_any W M a n c h
  have hn : n ≤ 65540 := by have := (shp_of M hs).len; have := h.2.1; omega
  rw [hs] at hsh
  have H := Lib.hid h
  clear h hs
  go_enter Tryd.func8, Tryd.ntmps8
  go_wp2_with fail
  refine hsh.mono ?_
  rintro e w1 ⟨rfl, hb⟩
  have HB := Lib.hid hb
  have hcl := clone_I w1 a n c M (H.out.below hb) hn
  clear hb hsh H
  go_wp2_with fail
  refine hcl.mono ?_
  rintro e w2 ⟨v, rfl, ho, hb2⟩
  have HO := Lib.hid ho
  have HB2 := Lib.hid (HB.out.trans (hb2.mono HB.out.size))
  clear ho hb2 hcl
  obtain ⟨va, vc, hv⟩ := own_shape HO.out
  subst hv
  go_wp2_with fail
  go_ret2
  have hbe : W.heap.size ≤ w2.heap.size := HB2.out.size
  refine ⟨⟨w2.heap.size, .slice va M.length vc, .slice none 0 0, .slice none 0 0, .slice none 0 0, .slice none 0 0, .slice none 0 0, [], 0, 0, [], [], []⟩, rfl, rfl, ?_, HB2.out.alloc HB2.out.size _⟩
  have hnil : ∀ e sz, (w2.alloc (.cells #[.bool true, .slice va M.length vc, .slice none 0 0, .int .i16 0, .int .i64 0, .slice none 0 0, .slice none 0 0, .slice none 0 0, .slice none 0 0] TS)).ownsRow W.heap.size e sz (.slice none 0 0) 0 [] := fun e sz => World.ownsRow_nil _ _ _ _
  refine ⟨⟨At.new w2 TS _, ?_, hnil _ _, hnil _ _, hnil _ _, hnil _ _, ?_, hbe⟩, rfl, ⟨Int.le_refl _, (by decide : (0 : Int) ≤ 32767), fun x hx => (List.not_mem_nil hx).elim, .inl ⟨rfl, rfl⟩⟩, ⟨0, [], hnil _ _⟩⟩
  · exact World.ownsRow.alloc (own_base HO.out HB.out.size) _
  · intro k h1 h2
    cases h1
end Go.Proofs.YtfmcjmkdlldlhaaDoor
