/-
  fill.taken, fill.size: what a group has taken, and how much.
-/
import Derived.Test.YtdbkoephkdfbfaaDoorPieces
namespace Go.Proofs.YtdbkoephkdfbfaaDoor
open Go.RowKit

theorem cut_none {ad ad' : Option Addr} {lo hi cap n c : Nat} (h : sliced ad lo hi cap 1 = .slice ad' n c) (hN : ad = none → cap = 0) : ad' = none → c = 0 := by
  unfold sliced at h
  simp only [Value.slice.injEq] at h
  obtain ⟨rfl, rfl, rfl⟩ := h
  intro he
  split at he
  · omega
  · cases ad with
    | none => have := hN rfl; omega
    | some x => simp at he

/-- A slice of bytes that is handed out: it reads as l. -/
def TakenPost (w : World) (l : List Int) (e : Ending) (w' : World) : Prop := ∃ ad n c, e = .returned (.slice ad n c) ∧ SB w' (.slice ad n c) l ∧ n ≤ c ∧ (ad = none → c = 0) ∧ Below w.heap.size w w'
theorem taken_nil {w w' : World} {l : List Int} {e : Ending} (he : e = .returned (.slice none 0 0)) (hl : l = []) (hb : Below w.heap.size w w') : TakenPost w l e w' := by
  subst hl
  exact ⟨none, 0, 0, he, ⟨isB_nil, none, 0, rfl, by simp, .inl rfl⟩, Nat.le_refl _, fun _ => rfl, hb⟩

set_option maxHeartbeats 1000000 in
set_option maxRecDepth 100000 in
theorem taken_any (w : World) (g : Int) (hg0 : 0 ≤ g) (hg1 : g ≤ 9223372036854775807) (ad : Option Addr) (nt ct : Nat) (text : List Int) (st : SB w (.slice ad nt ct) text) (hN : ad = none → ct = 0) (hct : nt ≤ ct)
    (al : Option Addr) (nl cl : Nat) (l : List Sp) (sl : NS w (.slice al nl cl) l) :
    Calls Tryd.prog 118 #[.int .i64 g, .slice ad nt ct, .slice al nl cl] w (TakenPost w (takenL g text l)) := by
  obtain ⟨hll, hln, _⟩ := sl.len
  obtain ⟨htl, htn⟩ := st.len
  obtain ⟨k, rfl⟩ : ∃ k : Nat, g = k := ⟨g.toNat, by omega⟩
  by_cases hk : k < nl
  · obtain ⟨b, o, rfl, hc⟩ := sl.read k hk
    obtain ⟨hc1, hc2⟩ := hc k hk
    obtain ⟨hi1, hi2⟩ := sl.1 k
    have ht : takenL k text l = if 0 ≤ (k : Int) ∧ 0 ≤ (l[k]?.getD (-1, -1)).1 ∧ (l[k]?.getD (-1, -1)).1 ≤ (l[k]?.getD (-1, -1)).2 ∧ (l[k]?.getD (-1, -1)).2 ≤ text.length then
      (text.drop (l[k]?.getD (-1, -1)).1.toNat).take ((l[k]?.getD (-1, -1)).2 - (l[k]?.getD (-1, -1)).1).toNat else [] := rfl
    rw [ht, htl]
    clear hc ht
    generalize l[k]?.getD (-1, -1) = s at hc1 hc2 hi1 hi2 ⊢
    obtain ⟨f, t⟩ := s
    simp only at hc1 hc2 hi1 hi2 ⊢
    unfold IsI at hi1 hi2
    have HLL := Lib.hid hll
    have HTL := Lib.hid htl
    have HN := Lib.hid hN
    clear hll htl hN sl
    by_cases h1 : f < 0
    · rw [if_neg (by omega)]
      go_enter Tryd.func118, Tryd.ntmps118
      go_wp2
      go_ret
      exact taken_nil rfl rfl ((Below.refl _ _).alloc (Nat.le_refl _) _)
    · by_cases h2 : t < f
      · rw [if_neg (by omega)]
        go_enter Tryd.func118, Tryd.ntmps118
        go_wp2
        go_ret
        exact taken_nil rfl rfl ((Below.refl _ _).alloc (Nat.le_refl _) _)
      · by_cases h3 : (nt : Int) < t
        · rw [if_neg (by omega)]
          go_enter Tryd.func118, Tryd.ntmps118
          go_wp2
          go_ret
          exact taken_nil rfl rfl ((Below.refl _ _).alloc (Nat.le_refl _) _)
        · rw [if_pos (by omega)]
          obtain ⟨x, rfl⟩ : ∃ x : Nat, f = x := ⟨f.toNat, by omega⟩
          obtain ⟨y, rfl⟩ : ∃ y : Nat, t = y := ⟨t.toNat, by omega⟩
          obtain ⟨ad', hrun, hsb, _, hsl⟩ := (st.below ((Below.refl _ _).alloc (Nat.le_refl _) (.cells #[.int .i64 x, .int .i64 y] 118))).cut x y (by omega) (by omega) hct
          have hnn := Lib.hid (cut_none hsl HN.out)
          have e1 : (x : Int).toNat = x := rfl
          have e2 : ((y : Int) - (x : Int)).toNat = y - x := by omega
          rw [e1, e2]
          have HS := Lib.hid hsb
          have hle : y - x ≤ ct - x := by omega
          clear hsl hsb e1 e2 st
          have hrun := hrun (w.alloc (.cells #[.int .i64 x, .int .i64 y] 118))
          go_enter Tryd.func118, Tryd.ntmps118
          go_wp2
          go_ret
          exact ⟨ad', _, _, rfl, HS.out, hle, hnn.out, (Below.refl _ _).alloc (Nat.le_refl _) _⟩
  · have ht : takenL k text l = [] := by
      unfold takenL
      rw [show ((k : Int).toNat) = k from rfl, List.getElem?_eq_none (by omega)]
      simp
    rw [ht]
    clear ht
    have HLL := Lib.hid hll
    clear hll htl hN sl st
    go_enter Tryd.func118, Tryd.ntmps118
    go_wp2
    go_ret
    exact taken_nil rfl rfl (Below.refl _ _)

theorem ret_i64 {a b : Int} (h : a = b) : Ending.returned (Value.int .i64 a) = Ending.returned (Value.int .i64 b) := by rw [h]

/-- What size answers. -/
def capN (n : Nat) : Nat := min n 1099511627776

end Go.Proofs.YtdbkoephkdfbfaaDoor
