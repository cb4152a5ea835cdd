/-
  Lists of marks: how they read, a row of them in a block; galleyref00's helpers on them.
-/
import Derived.Test.YtmmnebejmfmeeaaWide
namespace Go.Proofs.Ytmmnebejmfmeeaa
open Go.RowKit

/-- A mark: its byte, and whether it is plain. -/
abbrev Mk := Int × Bool
def IsM (l : List Mk) : Prop := ∀ i : Nat, 0 ≤ (l[i]?.getD (0, false)).1 ∧ (l[i]?.getD (0, false)).1 ≤ 255

/-- The slice value v reads, in w, as the marks l. -/
def SM (w : World) (v : Value) (l : List Mk) : Prop :=
  IsM l ∧ ∃ a cap, v = .slice a l.length cap ∧ l.length ≤ 70368744175616 ∧
    (l = [] ∨ ∃ b off, a = some ⟨b, off, none⟩ ∧ ∀ i : Nat, i < l.length → w.cell? ⟨b, off + i * 2, none⟩ = some (.int .u8 (l[i]?.getD (0, false)).1) ∧ w.cell? ⟨b, off + i * 2 + 1, none⟩ = some (.bool (l[i]?.getD (0, false)).2))

theorem SM.below {w w' : World} {v : Value} {l : List Mk} (h : SM w v l) (hb : Below w.heap.size w w') : SM w' v l := by
  obtain ⟨h1, a, cap, rfl, h2, h3⟩ := h
  refine ⟨h1, a, cap, rfl, h2, ?_⟩
  rcases h3 with h3 | ⟨b, off, ha, hc⟩
  · exact .inl h3
  · refine .inr ⟨b, off, ha, fun i hi => ?_⟩
    have hlt := World.block_lt_of_cell? w _ (hc i hi).1
    rw [hb.cell hlt, hb.cell (p := ⟨b, off + i * 2 + 1, none⟩) hlt]
    exact hc i hi
theorem SM.drewN {w : World} {v : Value} {l : List Mk} (h : SM w v l) (n : Nat) : SM (w.drewN n) v l := h.below (below_drewN (Below.refl _ _) n)
theorem SM.len {w : World} {a : Option Addr} {n c : Nat} {l : List Mk} (h : SM w (.slice a n c) l) : l.length = n ∧ n ≤ 70368744175616 := by
  obtain ⟨_, _, _, he, hl, _⟩ := h
  simp only [Value.slice.injEq] at he
  omega
theorem SM.read {w : World} {a : Option Addr} {n c : Nat} {l : List Mk} (h : SM w (.slice a n c) l) (k : Nat) (hk : k < n) : ∃ b o, a = some ⟨b, o, none⟩ ∧
    ∀ i : Nat, i < n → w.cell? ⟨b, o + i * 2, none⟩ = some (.int .u8 (l[i]?.getD (0, false)).1) ∧ w.cell? ⟨b, o + i * 2 + 1, none⟩ = some (.bool (l[i]?.getD (0, false)).2) := by
  obtain ⟨_, a', cap, he, _, h3⟩ := h
  simp only [Value.slice.injEq] at he
  obtain ⟨ha, rfl, _⟩ := he
  rcases h3 with rfl | ⟨b, o, hb, hc⟩
  · exact absurd hk (Nat.not_lt_zero _)
  · exact ⟨b, o, ha.trans hb, hc⟩

theorem takem_snoc (l : List Mk) (k : Nat) (h : k < l.length) : l.take (k + 1) = l.take k ++ [l[k]?.getD (0, false)] := by
  rw [List.take_succ_eq_append_getElem h]
  simp [h]
theorem takem_eq_step (a b : List Mk) (k : Nat) (h : k < a.length) (hl : a.length = b.length) (ht : a.take k = b.take k) (he : a[k]?.getD (0, false) = b[k]?.getD (0, false)) : a.take (k + 1) = b.take (k + 1) := by
  rw [takem_snoc a k h, takem_snoc b k (by omega), ht, he]
theorem extm_of (l m : List Mk) (hl : l.length = m.length) (h : ∀ j : Nat, j < l.length → l[j]?.getD (0, false) = m[j]?.getD (0, false)) : l = m := by
  apply List.ext_getElem hl
  intro i h1 h2
  have := h i h1
  simpa [h1, h2] using this

set_option maxHeartbeats 1000000 in
theorem eqMarks_any (w : World) (va vb : Value) (a b : List Mk) (ha : SM w va a) (hb : SM w vb b) :
    Calls Try.prog 19 #[va, vb] w fun e w' => e = .returned (.bool (decide (a = b))) ∧ ∃ n, w' = w.drewN n := by
  obtain ⟨hA, aa, ca, rfl, hla, hca⟩ := ha
  obtain ⟨hB, ab, cb, rfl, hlb, hcb⟩ := hb
  by_cases hl : a.length = b.length
  · by_cases h0 : a.length = 0
    · have ea : a = [] := List.eq_nil_of_length_eq_zero h0
      have eb : b = [] := List.eq_nil_of_length_eq_zero (by omega)
      subst ea eb
      clear hca hcb hl h0
      go_enter Try.func19, Try.ntmps19
      go_wp2
      go_loop [5] (fun i => i = .int .i64 0) (fun _ => 0)
      case atStart => rfl
      case round =>
        subst hrel
        go_wp2
        go_ret
        exact ⟨rfl, 0, rfl⟩
    · obtain ⟨ba, oa, rfl, hcA⟩ := hca.resolve_left (by intro e; simp [e] at h0)
      obtain ⟨bb, ob, rfl, hcB⟩ := hcb.resolve_left (by intro e; rw [e] at hl; exact h0 hl)
      clear hca hcb
      have hne : ((a.length : Int) != (b.length : Int)) = false := by rw [bne_eq_false_iff_eq]; omega
      have hl1 : a.length ≤ b.length := by omega
      have hl2 : b.length ≤ a.length := by omega
      have HL := Lib.hid hl
      have HA := Lib.hid hcA
      have HB := Lib.hid hcB
      clear hl hcA hcB hA hB
      go_enter Try.func19, Try.ntmps19
      go_wp2
      go_loopw [5] (fun i wr => ∃ k q : Nat, k ≤ a.length ∧ i = .int .i64 k ∧ a.take k = b.take k ∧ wr = w.drewN q) (fun i _ => a.length - (intOf i).toNat)
      case atStart => exact ⟨0, 0, Nat.zero_le _, rfl, rfl, rfl⟩
      case round =>
        obtain ⟨k, q, hk, rfl, ht, rfl⟩ := hrel
        have Ht := Lib.hid ht
        clear ht
        by_cases hlt : k < a.length
        · obtain ⟨h1, h1'⟩ := HA.out k hlt
          obtain ⟨h2, h2'⟩ := HB.out k (by omega)
          have hst := fun he => takem_eq_step a b k hlt HL.out Ht.out he
          have hnd : a[k]?.getD (0, false) ≠ b[k]?.getD (0, false) → decide (a = b) = false := by
            intro hne; simp; intro e; exact hne (by rw [e])
          generalize a[k]?.getD (0, false) = x at h1 h1' hst hnd
          generalize b[k]?.getD (0, false) = y at h2 h2' hst hnd
          obtain ⟨x1, x2⟩ := x
          obtain ⟨y1, y2⟩ := y
          dsimp only at h1 h1' h2 h2'
          by_cases he : (x1, x2) = (y1, y2)
          · have Hst := Lib.hid (hst he)
            simp only [Prod.mk.injEq] at he
            obtain ⟨rfl, rfl⟩ := he
            clear hst hnd
            go_wp2
            go_quiet (fail)
            go_wp2
            go_roundw
            case rel => exact ⟨k + 1, _, by omega, by go_num, Hst.out, rfl⟩
            case measure => simp [intOf]; omega
          · have Hd := Lib.hid (hnd he)
            simp only [Prod.mk.injEq] at he
            clear hst hnd
            by_cases h12 : x1 = y1
            · subst h12
              have hb12 : (x2 == y2) = false := by cases x2 <;> cases y2 <;> simp_all
              clear he
              go_wp2
              go_quiet (fail)
              go_wp2
              go_ret
              exact ⟨ret_bool Hd.out.symm, _, World.drewN_drewN _ _ _⟩
            · have hb12 : (x1 == y1) = false := beq_eq_false_iff_ne.2 h12
              clear he h12
              go_wp2
              go_quiet (fail)
              go_wp2
              go_ret
              exact ⟨ret_bool Hd.out.symm, _, World.drewN_drewN _ _ _⟩
        · have hd : decide (a = b) = true := by
            have := Ht.out
            rw [List.take_of_length_le (by omega), List.take_of_length_le (by omega)] at this
            simpa using this
          have Hd := Lib.hid hd
          clear hd
          go_wp2
          go_ret
          exact ⟨ret_bool Hd.out.symm, _, rfl⟩
  · have hne : ((a.length : Int) != (b.length : Int)) = true := by rw [bne_iff_ne]; omega
    have hd : decide (a = b) = false := by
      simp; intro e; exact hl (by rw [e])
    rw [hd]
    clear hca hcb hA hB
    go_enter Try.func19, Try.ntmps19
    go_wp2
    go_ret
    exact ⟨rfl, 0, rfl⟩
end Go.Proofs.Ytmmnebejmfmeeaa
