/-
  A list of lists of bytes that the call owns, down to its bytes.
-/
import Derived.Test.YtadjonggmbndmaaWin
import Derived.Test.YtadjonggmbndmaaLinesMath
import Derived.Test.YtadjonggmbndmaaEqRows
namespace Go.Proofs.Ytadjonggmbndmaa
open Go.RowKit

/-- v is a window of block b; its cells own the lists R. -/
structure Rws (w : World) (base b : Nat) (v : Value) (vs : List Value) (R : List (List Int)) : Prop where
  win : Win w base b v vs
  len : vs.length = R.length
  own : ∀ i : Nat, i < R.length → ∃ u, vs[i]? = some u ∧ OwnB w base u (R[i]?.getD []) ∧ u.ownBlock ≠ some b ∧ IsB (R[i]?.getD []) ∧ (R[i]?.getD []).length ≤ 140737488351232

theorem Rws.below {w w' : World} {base b : Nat} {v : Value} {vs : List Value} {R : List (List Int)} (h : Rws w base b v vs R) (hb : Below w.heap.size w w') : Rws w' base b v vs R :=
  ⟨h.win.below hb, h.len, fun i hi => by
    obtain ⟨u, h1, h2, h3⟩ := h.own i hi
    exact ⟨u, h1, h2.below hb, h3⟩⟩
theorem own_kept {w w' : World} {base b : Nat} {u : Value} {l : List Int} (h : OwnB w base u l) (hb : u.ownBlock ≠ some b) (hk : ∀ k, k < w.heap.size → k ≠ b → w'.heap[k]? = w.heap[k]?) : OwnB w' base u l := by
  refine ⟨h.1, ?_⟩
  rcases h.2 with hn | ⟨k, cap, cur, rfl, h1, h2, rest⟩
  · exact .inl hn
  · exact .inr ⟨k, cap, cur, rfl, h1, by rw [hk k ((Array.getElem?_eq_some_iff.1 h2).1) (fun e => hb (by rw [e]; rfl))]; exact h2, rest⟩
theorem Rws.append {w w' : World} {base b b' : Nat} {v v' y : Value} {vs : List Value} {R : List (List Int)} {x : List Int} (h : Rws w base b v vs R) (hw : Win w' base b' v' (vs ++ [y])) (hp : WinPost w w' base b b') (hy : OwnB w base y x) (hyb : y.ownBlock ≠ some b) (hB : IsB x) (hl : x.length ≤ 140737488351232) :
    Rws w' base b' v' (vs ++ [y]) (R ++ [x]) := by
  have hne : ∀ {u : Value} {l : List Int}, OwnB w base u l → u.ownBlock ≠ some b → u.ownBlock ≠ some b' := fun ho hn e => by
    rcases hp.new with e2 | e2
    · rw [e2] at e; exact hn e
    · have := (World.ownsRow.lt ho _ e).2; omega
  refine ⟨hw, by simp [h.len], fun i hi => ?_⟩
  have hlen := h.len
  rw [List.length_append, List.length_singleton] at hi
  by_cases hiR : i < R.length
  · obtain ⟨u, h1, h2, h3, h4⟩ := h.own i hiR
    rw [List.getElem?_append_left hiR, List.getElem?_append_left (by omega)]
    exact ⟨u, h1, own_kept h2 h3 hp.blk, hne h2 h3, h4⟩
  · have hi2 : i = R.length := by omega
    subst hi2
    rw [List.getElem?_append_right (by omega), List.getElem?_append_right (by omega), hlen, Nat.sub_self]
    exact ⟨y, rfl, own_kept hy hyb hp.blk, hne hy hyb, hB, hl⟩
theorem Rws.cut {w : World} {base b : Nat} {v v' y : Value} {vs : List Value} {x : List Int} {R : List (List Int)} (h : Rws w base b v (y :: vs) (x :: R)) (hw : Win w base b v' vs) : Rws w base b v' vs R :=
  ⟨hw, by simpa using h.len, fun i hi => by simpa using h.own (i + 1) (by simpa using hi)⟩
/-- Another list of the call's own is not touched, nor is the window by another's change. -/
theorem Rws.kept {w w' : World} {base b : Nat} {v : Value} {vs : List Value} {R : List (List Int)} (h : Rws w base b v vs R) (hb : w'.heap[b]? = w.heap[b]?) (hk : ∀ u, u ∈ vs → ∀ k, u.ownBlock = some k → w'.heap[k]? = w.heap[k]?) : Rws w' base b v vs R :=
  ⟨h.win.kept hb, h.len, fun i hi => by
    obtain ⟨u, h1, h2, h3⟩ := h.own i hi
    refine ⟨u, h1, ⟨h2.1, ?_⟩, h3⟩
    rcases h2.2 with hn | ⟨k, cap, cur, rfl, g1, g2, rest⟩
    · exact .inl hn
    · exact .inr ⟨k, cap, cur, rfl, g1, by rw [hk _ (List.mem_iff_getElem?.2 ⟨i, h1⟩) k rfl]; exact g2, rest⟩⟩
theorem Rws.rb {w : World} {base b : Nat} {v : Value} {vs : List Value} {R : List (List Int)} (h : Rws w base b v vs R) (hl : R.length ≤ 5864062014805) : RB w v R := by
  obtain ⟨off, cap, rfl, hle, hc⟩ := h.win.read
  rw [h.len] at hle ⊢
  refine ⟨_, cap, rfl, hl, hle, (fun e => by cases e), ?_⟩
  by_cases h0 : R = []
  · exact .inl h0
  · refine .inr ⟨b, off, rfl, fun i hi => ?_⟩
    obtain ⟨u, h1, h2, h3, h4, h5⟩ := h.own i hi
    obtain ⟨ad, c, rfl, g1, g2, g3⟩ := h2.sbn h4 h5
    exact ⟨ad, _, c, hc i _ h1, g3, g1, g2⟩
/-- The first row. -/
theorem Rws.head {w : World} {base b : Nat} {v : Value} {vs : List Value} {x : List Int} {R : List (List Int)} (h : Rws w base b v vs (x :: R)) : ∃ off cap ad c, v = .slice (some ⟨b, off, none⟩) (R.length + 1) cap ∧ w.cell? ⟨b, off, none⟩ = some (.slice ad x.length c) ∧ SB w (.slice ad x.length c) x ∧ x.length ≤ c := by
  obtain ⟨off, cap, rfl, hle, hc⟩ := h.win.read
  obtain ⟨u, h1, h2, h3, h4, h5⟩ := h.own 0 (by simp)
  have e : ((x :: R)[0]?.getD [] : List Int) = x := rfl
  rw [e] at h2 h4 h5
  obtain ⟨ad, c, rfl, g1, g2, g3⟩ := h2.sbn h4 h5
  exact ⟨off, cap, ad, c, by rw [h.len]; rfl, hc 0 _ h1, g3, g1⟩
end Go.Proofs.Ytadjonggmbndmaa
