/-
  Lists of pieces that a call owns, with their texts.
-/
import Derived.Test.YtdbkoephkdfbfaaDoorPieces
import Derived.Test.YtdbkoephkdfbfaaDoorApp
namespace Go.Proofs.YtdbkoephkdfbfaaDoor
open Go.RowKit

theorem infoP : (Tryd.prog.info? 122).map (fun i => (i.zero, i.size, i.bytes)) = some (some (.agg #[.int .i64 0, .slice none 0 0]), 2, 32) := by kernel_rfl

/-- A piece with the slice that its text lies in. -/
abbrev PcV := Int × Value × List Int
def plainP (L : List PcV) : List Pc := L.map fun x => (x.1, x.2.2)
def cellsP (L : List PcV) : List Value := L.flatMap fun x => [.int .i64 x.1, x.2.1]
theorem cellsP_len (L : List PcV) : (cellsP L).length = L.length * 2 := by
  unfold cellsP
  induction L with
  | nil => rfl
  | cons m l ih => simp at ih ⊢; omega
theorem cellsP_append (a b : List PcV) : cellsP (a ++ b) = cellsP a ++ cellsP b := by unfold cellsP; rw [List.flatMap_append]
theorem cellsP_get : ∀ (L : List PcV) (i : Nat) (h : i < L.length), (cellsP L)[i * 2]? = some (.int .i64 (L[i]).1) ∧ (cellsP L)[i * 2 + 1]? = some (L[i]).2.1
  | [], i, h => absurd h (Nat.not_lt_zero _)
  | m :: l, 0, _ => by simp [cellsP]
  | m :: l, i + 1, h => by
    have := cellsP_get l i (by simpa using h)
    unfold cellsP at this ⊢
    rw [List.flatMap_cons, show (i + 1) * 2 = i * 2 + 1 + 1 by omega]
    simpa using this

/-- The value v owns the pieces L, in blocks from base on; each text is the call's own, apart from all else. -/
structure OwnPs (w : World) (base : Nat) (v : Value) (L : List PcV) : Prop where
  own : w.ownsRow base 122 2 v L.length (cellsP L)
  txt : ∀ x ∈ L, OwnB w base x.2.1 x.2.2
  far : ∀ x ∈ L, Apart v x.2.1
  sep : L.Pairwise fun x y => Apart x.2.1 y.2.1

theorem OwnPs.nil (w : World) (base : Nat) : OwnPs w base (.slice none 0 0) [] := ⟨World.ownsRow_nil _ _ _ _, fun x h => by simp at h, fun x h => by simp at h, List.Pairwise.nil⟩
theorem own_below {w w' : World} {base : Nat} {e : TypeId} {n m : Nat} {v : Value} {xs : List Value} (h : w.ownsRow base e n v m xs) (hb : Below w.heap.size w w') : w'.ownsRow base e n v m xs :=
  World.ownsRow.kept h (row := none) ⟨hb.os, hb.tape, hb.output, hb.size, fun k hk _ => hb.block k hk⟩ (by cases v.ownBlock <;> simp)
theorem OwnPs.below {w w' : World} {base : Nat} {v : Value} {L : List PcV} (h : OwnPs w base v L) (hb : Below w.heap.size w w') : OwnPs w' base v L :=
  ⟨own_below h.own hb, fun x hx => (h.txt x hx).below hb, h.far, h.sep⟩
theorem OwnPs.setBelow {w : World} {base : Nat} {v : Value} {L : List PcV} (h : OwnPs w base v L) {a : Addr} (ha : a.block < base) (u : Value) : OwnPs (w.setCell a u) base v L :=
  ⟨ownsRow_setCell_below h.own ha u, fun x hx => (h.txt x hx).setBelow ha u, h.far, h.sep⟩
theorem OwnPs.mono {w : World} {base base' : Nat} {v : Value} {L : List PcV} (h : OwnPs w base v L) (hb : base' ≤ base) : OwnPs w base' v L :=
  ⟨⟨h.own.1, h.own.2.imp_right fun ⟨g, cap, cur, e, hg, r⟩ => ⟨g, cap, cur, e, by omega, r⟩⟩, fun x hx => (h.txt x hx).mono hb, h.far, h.sep⟩
theorem apart_none {u v : Value} (h : u.ownBlock = none) : Apart u v := fun k h1 _ => by rw [h] at h1; cases h1

/-- An append to another list. -/
theorem OwnPs.other {w w' : World} {base : Nat} {v vt vt' : Value} {L : List PcV} (h : OwnPs w base v L) (hA : AppPost w w' base vt vt') (hv : Apart vt v) (hx : ∀ x ∈ L, Apart vt x.2.1) :
    OwnPs w' base v L ∧ Apart vt' v ∧ ∀ x ∈ L, Apart vt' x.2.1 := by
  obtain ⟨h1, h2⟩ := hA.other _ _ _ _ _ _ h.own hv.symm.symm
  refine ⟨⟨h1, fun x hm => ?_, h.far, h.sep⟩, h2, fun x hm => ?_⟩
  · exact (hA.other _ _ _ _ _ _ (h.txt x hm) (hx x hm)).1
  · exact (hA.other _ _ _ _ _ _ (h.txt x hm) (hx x hm)).2

/-- A piece more. -/
theorem OwnPs.push {w w' : World} {base : Nat} {v v' vt : Value} {L : List PcV} {g : Int} {tx : List Int} (h : OwnPs w base v L) (hA : AppPost w w' base v v') (hown : w'.ownsRow base 122 2 v' (L.length + 1) (cellsP L ++ [.int .i64 g, vt]))
    (ht : OwnB w base vt tx) (hv : Apart v vt) (hx : ∀ x ∈ L, Apart vt x.2.1) : OwnPs w' base v' (L ++ [(g, vt, tx)]) := by
  refine ⟨?_, fun x hm => ?_, fun x hm => ?_, ?_⟩
  · rw [List.length_append, cellsP_append]; exact hown
  · rcases List.mem_append.1 hm with hm | hm
    · exact (hA.other _ _ _ _ _ _ (h.txt x hm) (h.far x hm)).1
    · simp only [List.mem_singleton] at hm
      subst hm
      exact (hA.other _ _ _ _ _ _ ht hv).1
  · rcases List.mem_append.1 hm with hm | hm
    · exact (hA.other _ _ _ _ _ _ (h.txt x hm) (h.far x hm)).2
    · simp only [List.mem_singleton] at hm
      subst hm
      exact (hA.other _ _ _ _ _ _ ht hv).2
  · rw [List.pairwise_append]
    refine ⟨h.sep, List.pairwise_singleton _ _, fun x hx' y hy => ?_⟩
    simp only [List.mem_singleton] at hy
    subst hy
    exact (hx x hx').symm

theorem plainP_len (L : List PcV) : (plainP L).length = L.length := by unfold plainP; rw [List.length_map]
theorem plainP_append (a b : List PcV) : plainP (a ++ b) = plainP a ++ plainP b := by unfold plainP; rw [List.map_append]

/-- It reads as pieces. -/
theorem OwnPs.ps {w : World} {base : Nat} {v : Value} {L : List PcV} (h : OwnPs w base v L) (hB : ∀ x ∈ L, IsI x.1 ∧ IsB x.2.2 ∧ x.2.2.length ≤ 140737488351232) (hl : L.length ≤ 4398046510976) : PS w v (plainP L) := by
  refine ⟨fun i => ?_, ?_⟩
  · by_cases hi : i < L.length
    · have := (hB L[i] (List.getElem_mem hi)).1
      simpa [plainP, hi] using this
    · rw [List.getElem?_eq_none (by rw [plainP_len]; omega)]; simp [IsI]
  · rcases h.own.2 with ⟨rfl, hn⟩ | ⟨g, cap, cur, rfl, _, hg, hnc, _, _, htake⟩
    · have hL : L = [] := List.eq_nil_of_length_eq_zero hn
      subst hL
      exact ⟨none, 0, rfl, by simp [plainP], by simp [plainP], fun _ => rfl, .inl rfl⟩
    · refine ⟨_, cap, by rw [plainP_len], by rw [plainP_len]; exact hl, by rw [plainP_len]; exact hnc, (fun h => by cases h), .inr ⟨g, 0, rfl, fun i hi => ?_⟩⟩
      rw [plainP_len] at hi
      obtain ⟨h1, h2⟩ := cellsP_get L i hi
      rw [← htake, List.getElem?_take_of_lt (by omega)] at h1 h2
      have hm := List.getElem_mem hi
      obtain ⟨ad, c, he, hc, hN, hs⟩ := (h.txt _ hm).sbn (hB _ hm).2.1 (hB _ hm).2.2
      have hget : (plainP L)[i]?.getD (0, []) = ((L[i]).1, (L[i]).2.2) := by simp [plainP, hi]
      rw [hget]
      refine ⟨?_, ad, _, c, ?_, he ▸ hs, hc, hN⟩
      · rw [Nat.zero_add, cell_of_row w g _ cur _ (0, 0) hg]; simpa using h1
      · rw [Nat.zero_add, cell_of_row w g _ cur _ (0, 0) hg, ← he]; simpa using h2
end Go.Proofs.YtdbkoephkdfbfaaDoor
