/-
  galleyref02: byteText, fair.
-/
import Derived.Test.YtboikhalfffioaaDoorLi
namespace Go.Proofs.YtboikhalfffioaaDoor
open Go.RowKit

set_option maxRecDepth 100000 in
theorem refByte_any (x : UInt8) (w : World) : Calls Tryd.prog 60 #[.int .u8 (x.toNat : Int)] w fun e w' => e = .returned (.string ⟨(escL x).toArray⟩) ∧ ∃ q, w' = w.drewN q := by
  go_enter Tryd.func60, Tryd.ntmps60
  by_cases h1 : x = 34
  · subst h1
    go_wp2
    go_ret
    exact ⟨rfl, 0, rfl⟩
  · by_cases h2 : x = 92
    · subst h2
      go_wp2
      go_ret
      exact ⟨rfl, 0, rfl⟩
    · by_cases h3 : x = 10
      · subst h3
        go_wp2
        go_ret
        exact ⟨rfl, 0, rfl⟩
      · by_cases h4 : x = 9
        · subst h4
          go_wp2
          go_ret
          exact ⟨rfl, 0, rfl⟩
        · by_cases h5 : x = 13
          · subst h5
            go_wp2
            go_ret
            exact ⟨rfl, 0, rfl⟩
          · have hx := x.toNat_lt
            have g1 : ((x.toNat : Int) == 34) = false := beq_eq_false_iff_ne.2 (fun e => h1 (UInt8.toNat_inj.1 (show x.toNat = 34 by omega)))
            have g2 : ((x.toNat : Int) == 92) = false := beq_eq_false_iff_ne.2 (fun e => h2 (UInt8.toNat_inj.1 (show x.toNat = 92 by omega)))
            have g3 : ((x.toNat : Int) == 10) = false := beq_eq_false_iff_ne.2 (fun e => h3 (UInt8.toNat_inj.1 (show x.toNat = 10 by omega)))
            have g4 : ((x.toNat : Int) == 9) = false := beq_eq_false_iff_ne.2 (fun e => h4 (UInt8.toNat_inj.1 (show x.toNat = 9 by omega)))
            have g5 : ((x.toNat : Int) == 13) = false := beq_eq_false_iff_ne.2 (fun e => h5 (UInt8.toNat_inj.1 (show x.toNat = 13 by omega)))
            go_wp2
            have he : escL x = [92, 120, hexB (x.toNat / 16), hexB (x.toNat % 16)] := by rw [escL, if_neg h1, if_neg h2, if_neg h3, if_neg h4, if_neg h5]
            generalize x.toNat = n at hx he ⊢
            go_quiet (fail)
            go_wp2
            go_ret
            refine ⟨?_, ⟨_, rfl⟩⟩
            show Ending.returned (Value.string _) = _
            rw [he, hex_at (n / 16) (by omega), hex_at (n % 16) (by omega)]
            rfl
/-- May the character of n bytes at the head stand as it is? -/
def fairL (l : List UInt8) (n : Nat) : Bool :=
  if n = 1 then decide (32 ≤ (l.getD 0 0).toNat) && !decide ((l.getD 0 0).toNat = 127) && !decide ((l.getD 0 0).toNat = 34) && !decide ((l.getD 0 0).toNat = 92)
  else !(decide (n = 2) && decide ((l.getD 0 0).toNat = 194) && decide ((l.getD 1 0).toNat < 160))
theorem fairL_eq (l : List UInt8) (h : 0 < wid l) : fairL l (wid l) = fairR ((Lib.decodeL l).1 : Int) := by
  have hw : ¬ ((Lib.decodeL l).1 = 65533 ∧ (Lib.decodeL l).2 = 1) := fun e => by rw [wid, if_pos e] at h; omega
  rw [wid_pos hw]
  rw [Lib.decodeL_N] at hw ⊢
  have k0 := (l.getD 0 0).toNat_lt
  have k1 := (l.getD 1 0).toNat_lt
  have k2 := (l.getD 2 0).toNat_lt
  have k3 := (l.getD 3 0).toNat_lt
  unfold fairL fairR
  generalize (l.getD 0 0).toNat = b0 at *
  generalize (l.getD 1 0).toNat = b1 at *
  generalize (l.getD 2 0).toNat = b2 at *
  generalize (l.getD 3 0).toNat = b3 at *
  rcases Lib.decodeN_shape l.length b0 b1 b2 b3 with ⟨c, e⟩ | ⟨c1, c2, c3, cv, e⟩ | ⟨c1, c2, c3, c4, cv, cs, e⟩ | ⟨c1, c2, c3, c4, c5, cv, cw, e⟩ | e
  · rw [e]; dsimp only
    rw [if_pos rfl, Bool.eq_iff_iff]
    simp
    omega
  · rw [e]; dsimp only
    rw [if_neg (by decide), Bool.eq_iff_iff]
    simp
    omega
  · rw [e]; dsimp only
    rw [if_neg (by decide), Bool.eq_iff_iff]
    simp
    omega
  · rw [e]; dsimp only
    rw [if_neg (by decide), Bool.eq_iff_iff]
    simp
    omega
  · rw [e] at hw
    exact absurd ⟨rfl, rfl⟩ hw
theorem bI_at (l : List UInt8) (i : Nat) (h : i < l.length) : (bI l)[i]?.getD 0 = ((l.getD i 0).toNat : Int) := by
  unfold bI
  rw [List.getElem?_map, List.getElem?_eq_getElem h, List.getD, List.getElem?_eq_getElem h]
  rfl

set_option maxRecDepth 100000 in
theorem refFair_any (w : World) (a : Option Addr) (n c : Nat) (l : List UInt8) (hA : SB w (.slice a n c) (bI l)) (p k : Nat) (hk : 1 ≤ k) (hpk : p + k ≤ n) :
    Calls Tryd.prog 59 #[.slice a n c, .int .i64 (p : Int), .int .i64 (k : Int)] w fun e w' => e = .returned (.bool (fairL (l.drop p) k)) ∧ w' = w := by
  obtain ⟨hl, hn⟩ := hA.len
  rw [bI_len] at hl
  obtain ⟨b, o, rfl, hr⟩ := hA.read p (by omega)
  have h0 := hr p (by omega)
  rw [bI_at l p (by omega)] at h0
  have e0 : (l.drop p).getD 0 0 = l.getD p 0 := by simp [List.getD]
  have e1 : (l.drop p).getD 1 0 = l.getD (p + 1) 0 := by simp [List.getD]
  have HF := Lib.hid (show fairL (l.drop p) k = if k = 1 then decide (32 ≤ (l.getD p 0).toNat) && !decide ((l.getD p 0).toNat = 127) && !decide ((l.getD p 0).toNat = 34) && !decide ((l.getD p 0).toNat = 92) else !(decide (k = 2) && decide ((l.getD p 0).toNat = 194) && decide ((l.getD (p + 1) 0).toNat < 160)) by unfold fairL; rw [e0, e1])
  have hx := (l.getD p 0).toNat_lt
  have hy := (l.getD (p + 1) 0).toNat_lt
  clear e0 e1
  by_cases hk1 : k = 1
  · have HF1 := Lib.hid (HF.out.trans (if_pos hk1))
    subst hk1
    clear HF
    generalize (l.getD p 0).toNat = x at h0 HF1 hx
    clear hr hA hy
    have key : ∀ v : Bool, v = (decide ((32 : Int) ≤ (x : Int)) && (x : Int) != 127 && (x : Int) != 34 && (x : Int) != 92) → Ending.returned (Value.bool v) = Ending.returned (Value.bool (fairL (l.drop p) 1)) := fun v hv => by
      rw [hv, HF1.out]
      congr 2
      rw [Bool.eq_iff_iff]
      simp
      omega
    have HKEY := Lib.hid key
    clear key HF1
    go_enter Tryd.func59, Tryd.ntmps59
    by_cases c1 : (32 : Int) ≤ (x : Int)
    · have d1 : decide ((32 : Int) ≤ (x : Int)) = true := decide_eq_true c1
      cases d2 : ((x : Int) != 127) with
      | false =>
        go_wp2
        go_ret
        exact ⟨HKEY.out _ (by rw [d1, d2]; rfl), rfl⟩
      | true =>
        cases d3 : ((x : Int) != 34) with
        | false =>
          go_wp2
          go_ret
          exact ⟨HKEY.out _ (by rw [d1, d2, d3]; rfl), rfl⟩
        | true =>
          go_wp2
          go_ret
          exact ⟨HKEY.out _ (by rw [d1, d2, d3]; simp), rfl⟩
    · have d1 : decide ((32 : Int) ≤ (x : Int)) = false := decide_eq_false c1
      go_wp2
      go_ret
      exact ⟨HKEY.out _ (by rw [d1]; rfl), rfl⟩
  · have HF1 := Lib.hid (HF.out.trans (if_neg hk1))
    have h1 := hr (p + 1) (by omega)
    rw [bI_at l (p + 1) (by omega)] at h1
    clear HF
    generalize (l.getD p 0).toNat = x at h0 HF1 hx
    generalize (l.getD (p + 1) 0).toNat = y at h1 HF1 hy
    have hq : ((k : Int) == 1) = false := by simp; omega
    clear hr hA
    have hlp : (p : Int) + 1 < (n : Int) := by omega
    by_cases hk2 : k = 2
    · subst hk2
      go_enter Tryd.func59, Tryd.ntmps59
      by_cases hx2 : x = 194
      · have d2 : ((x : Int) == 194) = true := by rw [hx2]; rfl
        have HF2 : Hid (fairL (l.drop p) 2 = !decide ((y : Int) < 160)) := Lib.hid (by rw [HF1.out, hx2, Bool.eq_iff_iff]; simp; omega)
        clear HF1 hx2
        go_wp2
        go_ret
        exact ⟨by rw [HF2.out]; rfl, rfl⟩
      · have d2 : ((x : Int) == 194) = false := by simp; omega
        have HF2 : Hid (fairL (l.drop p) 2 = true) := Lib.hid (by rw [HF1.out, decide_eq_false hx2]; rfl)
        clear HF1 hx2
        go_wp2
        go_ret
        exact ⟨by rw [HF2.out]; rfl, rfl⟩
    · have d1 : ((k : Int) == 2) = false := by simp; omega
      have HF2 : Hid (fairL (l.drop p) k = true) := Lib.hid (by rw [HF1.out, decide_eq_false hk2]; rfl)
      clear HF1
      go_enter Tryd.func59, Tryd.ntmps59
      go_wp2
      go_ret
      exact ⟨by rw [HF2.out]; rfl, rfl⟩
end Go.Proofs.YtboikhalfffioaaDoor
