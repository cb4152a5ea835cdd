/-
  A bag of four lists of bytes.
-/
import Derived.Test.YtgepjjpcokbpjaaDoorBagA
namespace Go.Proofs.YtgepjjpcokbpjaaDoor
open Go.RowKit

def pick4 {α : Type} (a b c d : α) : Nat → α
  | 0 => a
  | 1 => b
  | 2 => c
  | _ => d
theorem lt4 {k : Nat} (h : k < 4) : k = 0 ∨ k = 1 ∨ k = 2 ∨ k = 3 := by omega
theorem bags4 {w : World} {base : Nat} {u0 u1 u2 u3 : Value} {l0 l1 l2 l3 : List Int} (h0 : OwnB w base u0 l0) (h1 : OwnB w base u1 l1) (h2 : OwnB w base u2 l2) (h3 : OwnB w base u3 l3)
    (a01 : Apart u0 u1) (a02 : Apart u0 u2) (a03 : Apart u0 u3) (a12 : Apart u1 u2) (a13 : Apart u1 u3) (a23 : Apart u2 u3) :
    Bags w base 5 1 4 (pick4 u0 u1 u2 u3) (pick4 l0.length l1.length l2.length l3.length) (pick4 (l0.map (Value.int .u8)) (l1.map (Value.int .u8)) (l2.map (Value.int .u8)) (l3.map (Value.int .u8))) := by
  refine ⟨fun k hk => ?_, fun j k hj hk hne => ?_⟩
  · rcases lt4 hk with rfl | rfl | rfl | rfl
    · exact h0
    · exact h1
    · exact h2
    · exact h3
  · rcases lt4 hj with rfl | rfl | rfl | rfl <;> rcases lt4 hk with rfl | rfl | rfl | rfl <;> first
      | exact absurd rfl hne
      | exact a01
      | exact a02
      | exact a03
      | exact a12
      | exact a13
      | exact a23
      | exact a01.symm
      | exact a02.symm
      | exact a03.symm
      | exact a12.symm
      | exact a13.symm
      | exact a23.symm
theorem first4 (a b c d : Value) : firstN (pick4 a b c d) 4 = [a, b, c, d] := rfl

/-- Lists in blocks that lie one behind the other are apart. -/
theorem apart_lt {w : World} {base : Nat} {u v : Value} {l : List Int} (h : OwnB w base v l) (hu : ∀ k, u.ownBlock = some k → k < base) : Apart u v := fun k h1 h2 => by
  have := (World.ownsRow.lt h k h2).1
  have := hu k h1
  omega
theorem OwnB.top {w : World} {base : Nat} {v : Value} {l : List Int} (h : OwnB w base v l) {B : Nat} (hB : w.heap.size ≤ B) : ∀ k, v.ownBlock = some k → k < B := fun k hk => by
  have := (World.ownsRow.lt h k hk).2
  omega
/-- A list at the head of a whole row. -/
theorem Arr.own {w : World} {g base n m : Nat} {l : List Int} (h : Arr w g 5 l) (hb : base ≤ g) (hl : l.length = m) (hm : m ≤ maxLen) (hn : n ≤ m) : OwnB w base (.slice (some ⟨g, 0, none⟩) n m) (l.take n) := by
  have hlen : (l.take n).length = n := by rw [List.length_take]; omega
  unfold OwnB
  rw [hlen]
  refine ⟨by simp; omega, .inr ⟨g, m, row l, rfl, hb, h, hn, hm, by rw [row_size, hl, Nat.mul_one], ?_⟩⟩
  simp [row, List.map_take]

/-- An empty bag, just laid. -/
theorem BagAt.new (w : World) : BagAt (w.alloc (.cells (Value.slice none 0 0 :: noneB).toArray 55)) w.heap.size (.slice none 0 0 :: noneB) := heap_alloc_new w _
theorem bits8 {c : Int} (hc : ∀ n : Fin 256, 0 ≤ bits .xor .u8 (n.1 : Int) c ∧ bits .xor .u8 (n.1 : Int) c ≤ 255) (x : Int) (h0 : 0 ≤ x) (h1 : x ≤ 255) : 0 ≤ bits .xor .u8 x c ∧ bits .xor .u8 x c ≤ 255 := by
  have h := hc ⟨x.toNat, by omega⟩
  simp only [Int.toNat_of_nonneg h0] at h
  exact h
theorem isB_set {l : List Int} (h : IsB l) (i : Nat) (x : Int) (h0 : 0 ≤ x) (h1 : x ≤ 255) : IsB (l.set i x) := fun j => by
  rw [List.getElem?_set]
  split
  · split
    · simp; omega
    · simp
  · exact h j
theorem OwnB.store {w : World} {base g n cap : Nat} {l : List Int} (h : OwnB w base (.slice (some ⟨g, 0, none⟩) n cap) l) (i : Nat) (x : Int) : OwnB (w.setCell ⟨g, i, none⟩ (.int .u8 x)) base (.slice (some ⟨g, 0, none⟩) n cap) (l.set i x) := by
  obtain rfl := own_len h
  have := (World.ownsRow.stored h i (.int .u8 x)).1
  unfold OwnB
  rw [List.length_set, List.map_set]
  exact this
theorem OwnB.cellAt {w : World} {base g n cap : Nat} {l : List Int} (h : OwnB w base (.slice (some ⟨g, 0, none⟩) n cap) l) (i : Nat) (hi : i < n) : w.cell? ⟨g, i, none⟩ = some (.int .u8 (l[i]?.getD 0)) ∧ w.frozen? ⟨g, i, none⟩ = false := by
  obtain rfl := own_len h
  refine ⟨(World.ownsRow.cellAt h i (by omega)).trans ?_, World.ownsRow.frozenAt h i⟩
  rw [List.getElem?_map, List.getElem?_eq_getElem hi]
  simp
theorem OwnB.some_ {w : World} {base : Nat} {v : Value} {l : List Int} (h : OwnB w base v l) (hn : 0 < l.length) : ∃ g cap, v = .slice (some ⟨g, 0, none⟩) l.length cap ∧ l.length ≤ cap ∧ base ≤ g ∧ g < w.heap.size := by
  rcases h.2 with ⟨_, h0⟩ | ⟨g, cap, cur, rfl, hb, hg, hc, _⟩
  · omega
  · exact ⟨g, cap, rfl, hc, hb, (Array.getElem?_eq_some_iff.1 hg).1⟩
/-- A store into another block. -/
theorem OwnB.far_store {w : World} {base g i : Nat} {v : Value} {l : List Int} (h : OwnB w base v l) (hne : v.ownBlock ≠ some g) (u : Value) : OwnB (w.setCell ⟨g, i, none⟩ u) base v l := ownsRow_setCell_other h hne u
end Go.Proofs.YtgepjjpcokbpjaaDoor
