/-
  words.Words.Number, End.
-/
import Derived.Test.YtadjonggmbndmaaBehind
namespace Go.Proofs.Ytadjonggmbndmaa
open Go.RowKit

theorem runL_le (p : Int → Bool) (l : List Int) (a : Nat) (h : a ≤ l.length) : a + (runL p l a).length ≤ l.length := by
  unfold runL
  have := (List.takeWhile_sublist p (l := l.drop a)).length_le
  rw [List.length_drop] at this
  omega
theorem runL_get (p : Int → Bool) (l : List Int) (a j : Nat) (hj : j < (runL p l a).length) : (runL p l a)[j]?.getD 0 = l[a + j]?.getD 0 ∧ p ((runL p l a)[j]?.getD 0) = true := by
  have h2 : (runL p l a)[j] ∈ runL p l a := List.getElem_mem hj
  have h3 := mem_takeWhile h2
  refine ⟨?_, by rw [List.getElem?_eq_getElem hj]; exact h3⟩
  have hp : runL p l a <+: l.drop a := List.takeWhile_prefix p
  have := hp.getElem hj
  rw [List.getElem?_eq_getElem hj, Option.getD_some, this, List.getElem_drop]
  have hl : a + j < l.length := by
    have := hp.length_le
    rw [List.length_drop] at this
    omega
  simp [hl]

theorem runL_take (p : Int → Bool) (l : List Int) (a : Nat) : (l.drop a).take (runL p l a).length = runL p l a := by
  unfold runL
  have := List.prefix_iff_eq_take.1 (List.takeWhile_prefix p (l := l.drop a))
  exact this.symm

theorem hasS_dig_fun : hasS digS = digB := funext hasS_dig
theorem hasS_bl_fun : hasS blS = blB := funext hasS_bl
theorem digB_bd (x : Int) (h : digB x = true) : 48 ≤ x ∧ x ≤ 57 := by simpa [digB] using h

theorem valTo_snoc (v : Int) (l : List Int) (k : Nat) (h : k < l.length) : valTo v (l.take (k + 1)) = 10 * valTo v (l.take k) + (l[k]?.getD 0 - 48) := by
  rw [take_snoc l k h, valTo_append]
  rfl
theorem valTo_le_all (l : List Int) (k : Nat) (hd : ∀ c ∈ l, 48 ≤ c) : valTo 0 (l.take k) ≤ valTo 0 l := by
  have h := List.take_append_drop k l
  have h0 := valTo_ge 0 (Int.le_refl _) (l.take k) fun c hc => hd c (List.mem_of_mem_take hc)
  have h1 := valTo_ge (valTo 0 (l.take k)) h0 (l.drop k) fun c hc => hd c (List.mem_of_mem_drop hc)
  rw [← valTo_append, h] at h1
  exact h1

def NumPost (w : World) (g : Nat) (l : List Int) (a : Nat) (most : Int) (e : Ending) (w' : World) : Prop :=
  match numL most l a with
  | some (v, n) => e = .returned (.tuple #[.int .i64 v, .int .i64 0]) ∧ Wd w' g l (a + n) ∧ w.grownBy w' (some g)
  | none => e = .returned (.tuple #[.int .i64 0, .int .i64 71]) ∧ Wd w' g l a ∧ w.grownBy w' (some g)
theorem num_some {w w' : World} {g : Nat} {l : List Int} {a : Nat} {most v : Int} {n : Nat} {e : Ending} (h : numL most l a = some (v, n)) (h1 : e = .returned (.tuple #[.int .i64 v, .int .i64 0])) (h2 : Wd w' g l (a + n)) (h3 : w.grownBy w' (some g)) : NumPost w g l a most e w' := by
  unfold NumPost; rw [h]; exact ⟨h1, h2, h3⟩
theorem num_none {w w' : World} {g : Nat} {l : List Int} {a : Nat} {most : Int} {e : Ending} (h : numL most l a = none) (h1 : e = .returned (.tuple #[.int .i64 0, .int .i64 71])) (h2 : Wd w' g l a) (h3 : w.grownBy w' (some g)) : NumPost w g l a most e w' := by
  unfold NumPost; rw [h]; exact ⟨h1, h2, h3⟩

theorem number_neg (w : World) (g : Nat) (l : List Int) (a : Nat) (most : Int) (hm : most < 0) (h : Wd w g l a) :
    Calls Try.prog 33 #[.pointer (some ⟨g, 0, none⟩), .int .i64 most] w fun e w' => e = .returned (.tuple #[.int .i64 0, .int .i64 1]) ∧ w = w' := by
  go_enter Try.func33, Try.ntmps33
  go_wp2_with fail
  refine (isWords_yes w g l a h).mono ?_
  rintro e w' ⟨rfl, rfl⟩
  go_wp2_with fail
  go_ret2
  exact ⟨rfl, rfl⟩

/-- The run of digits at the place, with its number so far. -/
def NumInv (ds : List Int) (most : Int) (nv i : Value) : Prop := ∃ (k : Nat), k ≤ ds.length ∧ i = .int .i64 k ∧ nv = .int .i64 (valTo 0 (ds.take k)) ∧ 0 ≤ valTo 0 (ds.take k) ∧ valTo 0 (ds.take k) ≤ most

set_option maxHeartbeats 1000000 in
theorem number_any (w : World) (g : Nat) (l : List Int) (a : Nat) (most : Int) (hm : 0 ≤ most) (hm2 : most ≤ 9223372036854775807) (h : Wd w g l a) :
    Calls Try.prog 33 #[.pointer (some ⟨g, 0, none⟩), .int .i64 most] w (NumPost w g l a most) := by
  obtain ⟨ha, hl, _, h2, _⟩ := h.cells
  have HL := runL_le digB l a ha
  have HT := Lib.hid (runL_take digB l a)
  have HG := Lib.hid fun c (hc : c ∈ runL digB l a) => digB_bd c (mem_takeWhile hc)
  have HN : Hid (numL most l a = if runL digB l a = [] ∨ most < valTo 0 (runL digB l a) then none else some (valTo 0 (runL digB l a), (runL digB l a).length)) := rfl
  have hbe := behind_any digS dig_ascii w g l a h a ha
  rw [hasS_dig_fun] at hbe
  generalize runL digB l a = ds at HL HT HG HN hbe
  generalize hE : a + ds.length = E at HL hbe
  have HE := Lib.hid hE
  have haE : a ≤ E := by omega
  have HBE := Lib.hid hbe
  clear hbe hE
  go_enter Try.func33, Try.ntmps33
  go_wp2_with fail
  refine (isWords_yes w g l a h).mono ?_
  rintro e w' ⟨rfl, rfl⟩
  clear h2
  obtain ⟨_, _, _, h2, _⟩ := h.cells
  go_wp2_with fail
  refine HBE.out.mono ?_
  rintro e w1 ⟨rfl, hb1⟩
  have h1 := h.below hb1
  have hG := grown_below hb1 (some g)
  clear HBE hb1 h h2
  obtain ⟨_, _, _, h2, hf, ad, cap, ht, hcap, hs⟩ := h1.cells
  obtain ⟨ad', hsl, hsd, _, _⟩ := hs.cut a E haE HL hcap
  rw [show E - a = ds.length by have := HE.out; omega, HT.out] at hsd
  rw [show E - a = ds.length by have := HE.out; omega] at hsl
  clear hs
  go_wp2_with fail
  go_quiet (fail)
  rename_i nq
  have h1 := h1.drewN nq
  have hG := grown_trans hG (grown_below (below_drewN (Below.refl _ _) nq) (some g))
  have hsd := hsd.drewN nq
  have h2 : (w1.drewN nq).cell? ⟨g, 2, none⟩ = some (.int .i64 a) := h2
  have hf : (w1.drewN nq).frozen? ⟨g, 2, none⟩ = false := hf
  generalize w1.drewN nq = w2 at h1 hG hsd h2 hf ⊢
  clear hsl ht
  have hdl : ds.length ≤ 140737488351232 := by have := HE.out; omega
  go_wp2_with fail
  go_loop [7, 36] (fun nv i => NumInv ds most nv i) (fun _ i => ds.length - (intOf i).toNat)
  case atStart => exact ⟨0, Nat.zero_le _, rfl, rfl, Int.le_refl _, hm⟩
  case round =>
    obtain ⟨k, hk, rfl, rfl, hv0, hv1⟩ := hrel
    by_cases hlt : k < ds.length
    · obtain ⟨b, o, rfl, hc⟩ := hsd.read k hlt
      have hck := hc k hlt
      have hd := HG.out (ds[k]?.getD 0) (by rw [List.getElem?_eq_getElem hlt]; exact List.getElem_mem hlt)
      have hsn := valTo_snoc 0 ds k hlt
      have hall := valTo_le_all ds (k + 1) (fun c hc => (HG.out c hc).1)
      rw [hsn] at hall
      obtain ⟨hx0, hx1⟩ := hd
      have hge := valTo_ge 0 (Int.le_refl _) ds fun c hc => (HG.out c hc).1
      have HS := Lib.hid hsn
      have hne : Hid (ds ≠ []) := fun e => by rw [e] at hlt; exact Nat.not_lt_zero _ hlt
      have hnone : most < valTo 0 ds → Hid (numL most l a = none) := fun h => by
        have := HN.out
        rw [if_pos (Or.inr h)] at this
        exact this
      clear hc hsn
      by_cases hfit : valTo 0 (ds.take k) * 10 + (ds[k]?.getD 0 - 48) ≤ most
      · have hR : NumInv ds most (.int .i64 (valTo 0 (ds.take k) * 10 + (ds[k]?.getD 0 - 48))) (.int .i64 ((k : Int) + 1)) := ⟨k + 1, by omega, by go_num, by rw [HS.out]; congr 1; omega, by rw [HS.out]; omega, by rw [HS.out]; omega⟩
        generalize valTo 0 (ds.take k) = v at hv0 hv1 hfit hR
        generalize ds[k]?.getD 0 = x at hck hx0 hx1 hfit hR
        have HR := Lib.hid hR
        clear hR hall hge hnone
        go_wp2_with fail
        go_round
        case rel => exact HR.out
        case measure => simp [intOf]; omega
      · have HO := hnone (by omega)
        generalize valTo 0 (ds.take k) = v at hv0 hv1 hfit
        generalize ds[k]?.getD 0 = x at hck hx0 hx1 hfit
        clear hall hge hnone
        by_cases hd2 : x - 48 ≤ most
        · clear hne
          go_wp2_with fail
          go_ret2
          exact num_none HO.out rfl h1 hG
        · have htd : (most - (x - 48)).tdiv 10 = 0 := by
            have := Int.neg_tdiv (x - 48 - most) 10
            rw [show -(x - 48 - most) = most - (x - 48) by omega] at this
            rw [this, Int.tdiv_eq_ediv_of_nonneg (by omega)]
            omega
          by_cases hv : v = 0
          · subst hv
            clear hne
            go_wp2_with fail
            go_ret2
            exact num_none HO.out rfl h1 hG
          · have hv' : 0 < v := by omega
            clear hne
            go_wp2_with fail
            go_ret2
            exact num_none HO.out rfl h1 hG
    · have hk' : k = ds.length := by omega
      by_cases h0 : ds.length = 0
      · have HO : Hid (numL most l a = none) := by
          have := HN.out
          rw [if_pos (Or.inl (List.eq_nil_of_length_eq_zero h0))] at this
          exact this
        have heq : ((E : Int) == (a : Int)) = true := by rw [beq_iff_eq]; have := HE.out; omega
        generalize valTo 0 (ds.take k) = v at hv0 hv1
        have Hk := Lib.hid hk'
        clear hk' h0
        go_wp2_with fail
        go_ret2
        exact num_none HO.out rfl h1 hG
      · have heq : ((E : Int) == (a : Int)) = false := by rw [beq_eq_false_iff_ne]; have := HE.out; omega
        rw [List.take_of_length_le (by omega)] at hv0 hv1 ⊢
        have HO : Hid (numL most l a = some (valTo 0 ds, ds.length)) := by
          have := HN.out
          rw [if_neg] at this
          · exact this
          · rintro (h | h)
            · rw [h] at h0; exact h0 rfl
            · omega
        have hS := h1.set E HL
        have hW : Wd (w2.setCell ⟨g, 2, none⟩ (.int .i64 E)) g l (a + ds.length) := by rw [HE.out]; exact hS.1
        have hG2 := grown_trans hG hS.2
        generalize valTo 0 ds = v at hv0 hv1 HO ⊢
        have Hk := Lib.hid hk'
        clear hk' h0 hS
        go_wp2_with fail
        go_ret2
        exact num_some HO.out rfl hW hG2
end Go.Proofs.Ytadjonggmbndmaa
