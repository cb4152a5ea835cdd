/-
  The last list of a list of lists grows in place.
-/
import Derived.Test.YtadjonggmbndmaaRws
namespace Go.Proofs.Ytadjonggmbndmaa
open Go.RowKit

theorem win_setLast {l : List Value} {off : Nat} {vs : List Value} {u : Value} (y : Value) (h : (l.drop off).take (vs ++ [u]).length = vs ++ [u]) (hl : off + (vs ++ [u]).length ≤ l.length) : ((l.set (off + vs.length) y).drop off).take (vs ++ [y]).length = vs ++ [y] := by
  have h1 : (l.drop off).take vs.length = vs := by
    have := congrArg (List.take vs.length) h
    rw [List.take_take, List.length_append, Nat.min_eq_left (by omega)] at this
    rw [this]
    simp
  have := win_set y h1 rfl (by rw [List.length_append] at hl; simp at hl; omega)
  rw [List.length_append]
  exact this

theorem Rws.setLast {w w1 : World} {base b off n cap : Nat} {u u' : Value} {vs : List Value} {R : List (List Int)} {z z' : List Int} (h : Rws w base b (.slice (some ⟨b, off, none⟩) n cap) (vs ++ [u]) (R ++ [z]))
    (hap : ∀ y ∈ vs, Apart y u) (hown : OwnB w1 base u' z') (hA : AppPost w w1 base u u') (hB : IsB z') (hl : z'.length ≤ 140737488351232) :
    Rws (w1.setCell ⟨b, off + vs.length, none⟩ u') base b (.slice (some ⟨b, off, none⟩) n cap) (vs ++ [u']) (R ++ [z']) := by
  have hlen := h.len
  rw [List.length_append, List.length_append] at hlen
  simp only [List.length_singleton] at hlen
  obtain ⟨off2, cap2, cur, he, hb0, hblk, hle, hcs, hcm, hvs⟩ := id h.win
  simp only [Value.slice.injEq, Option.some.injEq, Addr.mk.injEq] at he
  obtain ⟨⟨-, rfl, -⟩, rfl, rfl⟩ := he
  obtain ⟨u0, e0, -, hub, -⟩ := h.own R.length (by simp)
  rw [List.getElem?_append_right (by omega), show R.length - vs.length = 0 by omega] at e0
  obtain rfl : u = u0 := by simpa using e0
  have hblk1 : w1.heap[b]? = some (.cells cur 35 (0, 0)) := by rw [hA.block b h.win.lt hub]; exact hblk
  have hset := heap_setCell_same w1 b (off + vs.length) _ _ u' hblk1
  have hub' : u'.ownBlock ≠ some b := fun e => by
    rcases hA.new b e with e2 | e2
    · exact hub e2
    · have := h.win.lt; omega
  refine ⟨⟨off, cap, _, by rw [List.length_append, List.length_append]; rfl, hb0, hset, by rw [List.length_append] at hle ⊢; exact hle, by simpa using hcs, hcm, ?_⟩, by simp; omega, fun i hi => ?_⟩
  · simp only [Array.toList_setIfInBounds]
    have e : cur.toList.length = cur.size := rfl
    exact win_setLast u' hvs (by rw [e]; omega)
  · rw [List.length_append, List.length_singleton] at hi
    by_cases hiR : i < R.length
    · obtain ⟨y, h1, h2, h3, h4⟩ := h.own i (by simp; omega)
      rw [List.getElem?_append_left (by omega)] at h1
      rw [List.getElem?_append_left hiR] at h2 h4
      rw [List.getElem?_append_left hiR, List.getElem?_append_left (by omega)]
      have hy := (hA.other _ _ _ _ _ _ h2 (Apart.symm (hap y (List.mem_iff_getElem?.2 ⟨i, h1⟩)))).1
      exact ⟨y, h1, ownsRow_setCell_other hy h3 _, h3, h4⟩
    · have hi2 : i = R.length := by omega
      subst hi2
      rw [List.getElem?_append_right (by omega), List.getElem?_append_right (by omega), show R.length - vs.length = 0 by omega, Nat.sub_self]
      exact ⟨u', rfl, ownsRow_setCell_other hown hub' _, hub', hB, hl⟩
end Go.Proofs.Ytadjonggmbndmaa
