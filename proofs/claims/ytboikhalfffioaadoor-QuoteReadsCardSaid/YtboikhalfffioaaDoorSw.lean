/-
  galleyref02.size, galleyref02.Whole: their walks.
-/
import Derived.Test.YtboikhalfffioaaDoorBkM
import Derived.Deep.CutBlock
import Derived.Deep.DeepCutAuto
namespace Go.Proofs.YtboikhalfffioaaDoor
open Go.RowKit

/-- What the next bytes of a character say. -/
def stepF : Nat → List UInt8 → Int → Option Int
  | 0, _, c => some c
  | _ + 1, [], _ => none
  | f + 1, x :: r, c => if 128 ≤ x.toNat ∧ x.toNat ≤ 191 then stepF f r (64 * c + (x.toNat : Int) - 128) else none
/-- The end of size. -/
def finF (n : Nat) (low : Int) : Option Int → Nat
  | none => 0
  | some c => if c < low ∨ 1114111 < c ∨ (55296 ≤ c ∧ c ≤ 57343) then 0 else n
theorem wid1 (l : List UInt8) (h : (l.getD 0 0).toNat < 128) : wid l = 1 := by
  rw [← size_wid, sizeN, if_pos h]
theorem wid0 (l : List UInt8) (h : 128 ≤ (l.getD 0 0).toNat) (h1 : (l.getD 0 0).toNat < 192 ∨ 248 ≤ (l.getD 0 0).toNat) : wid l = 0 := by
  rw [← size_wid, sizeN, if_neg (by omega), if_neg (by omega), if_neg (by omega), if_neg (by omega)]
theorem wid2 (x : UInt8) (t : List UInt8) (h : 192 ≤ x.toNat) (h1 : x.toNat < 224) : wid (x :: t) = finF 2 128 (stepF 1 t ((x.toNat : Int) - 192)) := by
  rw [← size_wid, sizeN, List.getD_cons_zero, if_neg (by omega), if_pos ⟨h, h1⟩]
  match t with
  | [] => simp [stepF, finF]
  | y :: t =>
    simp only [stepF, finF, List.length_cons, List.getD_cons_succ, List.getD_cons_zero]
    have hy := y.toNat_lt
    by_cases hc : 128 ≤ y.toNat ∧ y.toNat ≤ 191
    · rw [if_pos ⟨by omega, hc⟩, if_pos hc]
      dsimp only
      split <;> split <;> omega
    · rw [if_neg (by omega), if_neg hc]
theorem wid3 (x : UInt8) (t : List UInt8) (h : 224 ≤ x.toNat) (h1 : x.toNat < 240) : wid (x :: t) = finF 3 2048 (stepF 2 t ((x.toNat : Int) - 224)) := by
  rw [← size_wid, sizeN, List.getD_cons_zero, if_neg (by omega), if_neg (by omega), if_pos ⟨h, h1⟩]
  match t with
  | [] => simp [stepF, finF]
  | [y] =>
    simp only [stepF, List.length_cons, List.length_nil]
    rw [if_neg (by omega), ite_self]
    rfl
  | y :: z :: t =>
    simp only [stepF, finF, List.length_cons, List.getD_cons_succ, List.getD_cons_zero]
    have hy := y.toNat_lt
    have hz := z.toNat_lt
    by_cases hc : 128 ≤ y.toNat ∧ y.toNat ≤ 191
    · rw [if_pos hc]
      by_cases hd : 128 ≤ z.toNat ∧ z.toNat ≤ 191
      · rw [if_pos ⟨⟨by omega, hc⟩, by omega, hd⟩, if_pos hd]
        dsimp only
        split <;> split <;> omega
      · rw [if_neg (by omega), if_neg hd]
    · rw [if_neg (by omega), if_neg hc]
theorem wid4 (x : UInt8) (t : List UInt8) (h : 240 ≤ x.toNat) (h1 : x.toNat < 248) : wid (x :: t) = finF 4 65536 (stepF 3 t ((x.toNat : Int) - 240)) := by
  rw [← size_wid, sizeN, List.getD_cons_zero, if_neg (by omega), if_neg (by omega), if_neg (by omega), if_pos ⟨h, h1⟩]
  match t with
  | [] => simp [stepF, finF]
  | [y] =>
    simp only [stepF, List.length_cons, List.length_nil]
    rw [if_neg (by omega), ite_self]
    rfl
  | [y, z] =>
    simp only [stepF, List.length_cons, List.length_nil]
    rw [if_neg (by omega), ite_self, ite_self]
    rfl
  | y :: z :: u :: t =>
    simp only [stepF, finF, List.length_cons, List.getD_cons_succ, List.getD_cons_zero]
    have hy := y.toNat_lt
    have hz := z.toNat_lt
    have hu := u.toNat_lt
    by_cases hc : 128 ≤ y.toNat ∧ y.toNat ≤ 191
    · rw [if_pos hc]
      by_cases hd : 128 ≤ z.toNat ∧ z.toNat ≤ 191
      · rw [if_pos hd]
        by_cases he : 128 ≤ u.toNat ∧ u.toNat ≤ 191
        · rw [if_pos ⟨⟨by omega, hc⟩, ⟨by omega, hd⟩, by omega, he⟩, if_pos he]
          dsimp only
          split <;> split <;> omega
        · rw [if_neg (by omega), if_neg he]
      · rw [if_neg (by omega), if_neg hd]
    · rw [if_neg (by omega), if_neg hc]
/-- How great the code may be behind k bytes. -/
def CodeLe (k : Nat) (c : Int) : Prop := 0 ≤ c ∧ c < 16777216 ∧ ((k = 1 ∧ c < 64) ∨ (k = 2 ∧ c < 4096) ∨ (k = 3 ∧ c < 262144) ∨ k = 4)
theorem CodeLe.step {k : Nat} {c : Int} (h : CodeLe k c) (hk : k < 4) (x : Nat) (h1 : 128 ≤ x) (h2 : x ≤ 191) : CodeLe (k + 1) (64 * c + (x : Int) - 128) := by
  unfold CodeLe at *
  omega
/-- The loop of size. -/
structure SwI (l : List UInt8) (p n k : Nat) (code : Int) (R : Option Int) : Prop where
  le : 1 ≤ k ∧ k ≤ n ∧ n ≤ 4
  eq : stepF (n - k) (l.drop (p + k)) code = R
  co : CodeLe k code
theorem drop_cons (l : List UInt8) (p : Nat) (h : p < l.length) : l.drop p = l.getD p 0 :: l.drop (p + 1) := by
  rw [List.drop_eq_getElem_cons h, List.getD, List.getElem?_eq_getElem h]
  rfl
theorem SwI.stop {l : List UInt8} {p n k : Nat} {code : Int} {R : Option Int} (h : SwI l p n k code R) (hk : k < n) (hc : l.length ≤ p + k ∨ (l.getD (p + k) 0).toNat < 128 ∨ 191 < (l.getD (p + k) 0).toNat) : R = none := by
  rw [← h.eq]
  obtain ⟨m, hm⟩ : ∃ m, n - k = m + 1 := ⟨n - k - 1, by omega⟩
  rw [hm]
  by_cases hl : l.length ≤ p + k
  · rw [List.drop_eq_nil_of_le hl]
    rfl
  · rw [drop_cons l (p + k) (by omega), stepF, if_neg (by omega)]
theorem SwI.next {l : List UInt8} {p n k : Nat} {code : Int} {R : Option Int} (h : SwI l p n k code R) (hk : k < n) (hl : p + k < l.length) (h1 : 128 ≤ (l.getD (p + k) 0).toNat) (h2 : (l.getD (p + k) 0).toNat ≤ 191) : SwI l p n (k + 1) (64 * code + ((l.getD (p + k) 0).toNat : Int) - 128) R := by
  have he := h.eq
  have hle := h.le
  obtain ⟨m, hm⟩ : ∃ m, n - k = m + 1 := ⟨n - k - 1, by omega⟩
  rw [hm, drop_cons l (p + k) hl, stepF, if_pos ⟨h1, h2⟩] at he
  refine ⟨by omega, ?_, h.co.step (by omega) _ h1 h2⟩
  rw [show n - (k + 1) = m by omega]
  exact he
theorem SwI.done {l : List UInt8} {p n : Nat} {code : Int} {R : Option Int} (h : SwI l p n n code R) : R = some code := by
  rw [← h.eq, Nat.sub_self]
  rfl

set_option maxHeartbeats 1000000 in
set_option maxRecDepth 100000 in
theorem refSize_any (w : World) (a : Option Addr) (n c : Nat) (l : List UInt8) (hA : SB w (.slice a n c) (bI l)) (p : Nat) (hp : p < n) :
    Calls Tryd.prog 54 #[.slice a n c, .int .i64 (p : Int)] w fun e w' => e = .returned (.int .i64 (wid (l.drop p) : Int)) ∧ w' = w := by
  obtain ⟨hl, hn⟩ := hA.len
  rw [bI_len] at hl
  have hbig : n ≤ 140737488351232 := by omega
  obtain ⟨b, o, rfl, hr⟩ := hA.read p (by omega)
  have hR : ∀ j, j < n → w.cell? ⟨b, o + j, none⟩ = some (.int .u8 ((l.getD j 0).toNat : Int)) := fun j hj => by
    rw [hr j (by omega), bI_at l j (by omega)]
  have HR := Lib.hid hR
  have HL := Lib.hid hl
  have h0 := hR p hp
  have hx := (l.getD p 0).toNat_lt
  have hdc := drop_cons l p (by omega)
  have HW1 : Hid ((l.getD p 0).toNat < 128 → wid (l.drop p) = 1) := Lib.hid fun h => wid1 _ (by rw [hdc]; exact h)
  have HW0 : Hid (128 ≤ (l.getD p 0).toNat → (l.getD p 0).toNat < 192 ∨ 248 ≤ (l.getD p 0).toNat → wid (l.drop p) = 0) := Lib.hid fun h h1 => wid0 _ (by rw [hdc]; exact h) (by rw [hdc]; exact h1)
  have HW2 : Hid (192 ≤ (l.getD p 0).toNat → (l.getD p 0).toNat < 224 → wid (l.drop p) = finF 2 128 (stepF 1 (l.drop (p + 1)) (((l.getD p 0).toNat : Int) - 192))) := Lib.hid fun h h1 => by rw [hdc]; exact wid2 _ _ h h1
  have HW3 : Hid (224 ≤ (l.getD p 0).toNat → (l.getD p 0).toNat < 240 → wid (l.drop p) = finF 3 2048 (stepF 2 (l.drop (p + 1)) (((l.getD p 0).toNat : Int) - 224))) := Lib.hid fun h h1 => by rw [hdc]; exact wid3 _ _ h h1
  have HW4 : Hid (240 ≤ (l.getD p 0).toNat → (l.getD p 0).toNat < 248 → wid (l.drop p) = finF 4 65536 (stepF 3 (l.drop (p + 1)) (((l.getD p 0).toNat : Int) - 240))) := Lib.hid fun h h1 => by rw [hdc]; exact wid4 _ _ h h1
  clear hdc hR hr hA hl hn
  generalize (l.getD p 0).toNat = x at h0 hx HW1 HW0 HW2 HW3 HW4
  generalize wid (l.drop p) = W0 at HW1 HW0 HW2 HW3 HW4 ⊢
  go_enter Tryd.func54, Tryd.ntmps54
  go_upto_block 0 with fail
  go_cut [6, 7, 8] (fun v6 v7 v8 wx => ∃ (nn : Nat) (low c0 : Int), v6 = .int .i64 (nn : Int) ∧ v7 = .int .i64 low ∧ v8 = .int .i64 c0 ∧ wx = w ∧ SwI l p nn 1 c0 (stepF (nn - 1) (l.drop (p + 1)) c0) ∧ W0 = finF nn low (stepF (nn - 1) (l.drop (p + 1)) c0))
  case first =>
    have hco : ∀ y : Int, 0 ≤ y → y < 64 → CodeLe 1 y := fun y h1 h2 => ⟨h1, by omega, .inl ⟨rfl, h2⟩⟩
    have HCO := Lib.hid hco
    clear hco
    by_cases a1 : x < 128
    · have d1 : decide ((x : Int) < 128) = true := decide_eq_true (by omega)
      have HE := Lib.hid (HW1.out a1)
      clear a1
      go_wp2_with fail
      go_ret
      exact ⟨by rw [HE.out]; rfl, rfl⟩
    · have d1 : decide ((x : Int) < 128) = false := decide_eq_false (by omega)
      by_cases a2 : 192 ≤ x
      · have d2 : decide (192 ≤ (x : Int)) = true := decide_eq_true (by omega)
        by_cases a3 : x < 224
        · have d3 : decide ((x : Int) < 224) = true := decide_eq_true (by omega)
          have HE := Lib.hid (HW2.out a2 a3)
          go_wp2_with fail
          go_meet
          case rel => exact ⟨2, 128, _, rfl, rfl, rfl, rfl, ⟨by omega, rfl, HCO.out _ (by omega) (by omega)⟩, HE.out⟩
        · have d3 : decide ((x : Int) < 224) = false := decide_eq_false (by omega)
          have d4 : decide (224 ≤ (x : Int)) = true := decide_eq_true (by omega)
          by_cases a4 : x < 240
          · have d5 : decide ((x : Int) < 240) = true := decide_eq_true (by omega)
            have HE := Lib.hid (HW3.out (by omega) a4)
            go_wp2_with fail
            go_meet
            case rel => exact ⟨3, 2048, _, rfl, rfl, rfl, rfl, ⟨by omega, rfl, HCO.out _ (by omega) (by omega)⟩, HE.out⟩
          · have d5 : decide ((x : Int) < 240) = false := decide_eq_false (by omega)
            have d6 : decide (240 ≤ (x : Int)) = true := decide_eq_true (by omega)
            by_cases a5 : x < 248
            · have d7 : decide ((x : Int) < 248) = true := decide_eq_true (by omega)
              have HE := Lib.hid (HW4.out (by omega) a5)
              go_wp2_with fail
              go_meet
              case rel => exact ⟨4, 65536, _, rfl, rfl, rfl, rfl, ⟨by omega, rfl, HCO.out _ (by omega) (by omega)⟩, HE.out⟩
            · have d7 : decide ((x : Int) < 248) = false := decide_eq_false (by omega)
              have HE := Lib.hid (HW0.out (by omega) (by omega))
              go_wp2_with fail
              go_ret
              exact ⟨by rw [HE.out]; rfl, rfl⟩
      · have d2 : decide (192 ≤ (x : Int)) = false := decide_eq_false (by omega)
        have d4 : decide (224 ≤ (x : Int)) = false := decide_eq_false (by omega)
        have d6 : decide (240 ≤ (x : Int)) = false := decide_eq_false (by omega)
        have HE := Lib.hid (HW0.out (by omega) (by omega))
        go_wp2_with fail
        go_ret
        exact ⟨by rw [HE.out]; rfl, rfl⟩
  case rest =>
    obtain ⟨nn, low, c0, rfl, rfl, rfl, rfl, hI, hW⟩ := hcut
    have HI := Lib.hid hI
    have HWE := Lib.hid hW
    have hnn := hI.le
    generalize stepF (nn - 1) (l.drop (p + 1)) c0 = R at HI HWE
    clear hI hW HW0 HW1 HW2 HW3 HW4 h0 hx
    go_wp2_with fail
    go_loopw [8, 9] (fun v8 v9 wr => ∃ (k : Nat) (code : Int), v8 = .int .i64 code ∧ v9 = .int .i64 (k : Int) ∧ wr = wc ∧ SwI l p nn k code R) (fun _ v9 _ => nn - (intOf v9).toNat)
    case atStart => exact ⟨1, _, rfl, rfl, rfl, HI.out⟩
    case round =>
      clear HI
      obtain ⟨k, code, rfl, rfl, rfl, hI⟩ := hrel
      have HI := Lib.hid hI
      have hle := hI.le
      have hc := hI.co
      clear hI
      by_cases hk : k < nn
      · have d1 : decide ((k : Int) < (nn : Int)) = true := decide_eq_true (by omega)
        by_cases hpk : n ≤ p + k
        · have d2 : decide ((n : Int) ≤ (p : Int) + (k : Int)) = true := decide_eq_true (by omega)
          have HS := Lib.hid (HI.out.stop hk (.inl (by rw [HL.out]; exact hpk)))
          go_wp2_with fail
          go_ret
          exact ⟨by rw [HWE.out, HS.out]; rfl, rfl⟩
        · have d2 : decide ((n : Int) ≤ (p : Int) + (k : Int)) = false := decide_eq_false (by omega)
          have hb := HR.out (p + k) (by omega)
          have e1 : o + (p + k) = o + p + k := by omega
          have hy := (l.getD (p + k) 0).toNat_lt
          have HST := Lib.hid (HI.out.stop hk)
          have HNX := Lib.hid (HI.out.next hk (by rw [HL.out]; omega))
          generalize (l.getD (p + k) 0).toNat = y at hb hy HST HNX
          have hb2 : wr.cell? ⟨b, o + p + k, none⟩ = some (.int .u8 (y : Int)) := by rw [← e1]; exact hb
          have hpn : (p : Int) + (k : Int) < (n : Int) := by omega
          clear e1
          by_cases c1 : y < 128
          · have d3 : decide ((y : Int) < 128) = true := decide_eq_true (by omega)
            have HS := Lib.hid (HST.out (.inr (.inl c1)))
            go_wp2_with fail
            go_ret
            exact ⟨by rw [HWE.out, HS.out]; rfl, rfl⟩
          · have d3 : decide ((y : Int) < 128) = false := decide_eq_false (by omega)
            by_cases c2 : 191 < y
            · have d4 : decide (191 < (y : Int)) = true := decide_eq_true (by omega)
              have HS := Lib.hid (HST.out (.inr (.inr c2)))
              go_wp2_with fail
              go_ret
              exact ⟨by rw [HWE.out, HS.out]; rfl, rfl⟩
            · have d4 : decide (191 < (y : Int)) = false := decide_eq_false (by omega)
              have HN2 := Lib.hid (HNX.out (by omega) (by omega))
              have hc2 := HN2.out.co
              have hcc : 0 ≤ code ∧ code < 16777216 := ⟨hc.1, hc.2.1⟩
              have hcd : 0 ≤ 64 * code + (y : Int) - 128 ∧ 64 * code + (y : Int) - 128 < 16777216 := ⟨hc2.1, hc2.2.1⟩
              clear hc hc2 HST HNX
              go_wp2_with fail
              go_roundw
              case rel => exact ⟨k + 1, _, rfl, rfl, trivial, HN2.out⟩
              case measure => simp only [intOf]; omega
      · have d1 : decide ((k : Int) < (nn : Int)) = false := decide_eq_false (by omega)
        obtain rfl : k = nn := by omega
        have HD := Lib.hid (HI.out.done)
        have HWF : Hid (W0 = if code < low ∨ 1114111 < code ∨ (55296 ≤ code ∧ code ≤ 57343) then 0 else k) := Lib.hid (by rw [HWE.out, HD.out]; rfl)
        clear HI HWE HD
        by_cases c1 : code < low
        · have d2 : decide (code < low) = true := decide_eq_true c1
          have HS := Lib.hid (HWF.out.trans (if_pos (.inl c1)))
          go_wp2_with fail
          go_ret
          exact ⟨by rw [HS.out]; rfl, rfl⟩
        · have d2 : decide (code < low) = false := decide_eq_false c1
          by_cases c2 : 1114111 < code
          · have d3 : decide (1114111 < code) = true := decide_eq_true c2
            have HS := Lib.hid (HWF.out.trans (if_pos (.inr (.inl c2))))
            go_wp2_with fail
            go_ret
            exact ⟨by rw [HS.out]; rfl, rfl⟩
          · have d3 : decide (1114111 < code) = false := decide_eq_false c2
            by_cases c3 : 55296 ≤ code
            · have d4 : decide (55296 ≤ code) = true := decide_eq_true c3
              by_cases c4 : code ≤ 57343
              · have d5 : decide (code ≤ 57343) = true := decide_eq_true c4
                have HS := Lib.hid (HWF.out.trans (if_pos (.inr (.inr ⟨c3, c4⟩))))
                go_wp2_with fail
                go_ret
                exact ⟨by rw [HS.out]; rfl, rfl⟩
              · have d5 : decide (code ≤ 57343) = false := decide_eq_false c4
                have HS := Lib.hid (HWF.out.trans (if_neg (by omega)))
                go_wp2_with fail
                go_ret
                exact ⟨by rw [HS.out]; rfl, rfl⟩
            · have d4 : decide (55296 ≤ code) = false := decide_eq_false c3
              have HS := Lib.hid (HWF.out.trans (if_neg (by omega)))
              go_wp2_with fail
              go_ret
              exact ⟨by rw [HS.out]; rfl, rfl⟩

/-- The loop of Whole. -/
structure WhI (l : List UInt8) (n p f : Nat) : Prop where
  le : p ≤ n
  fu : n ≤ p + f
  eq : wholeF f (l.drop p) = wholeF l.length l
theorem WhI.done {l : List UInt8} {n p f : Nat} (h : WhI l n p f) (hl : l.length = n) (hp : ¬ p < n) : wholeF l.length l = true := by
  rw [← h.eq, List.drop_eq_nil_of_le (by omega)]
  cases f <;> simp [wholeF]
theorem WhI.next {l : List UInt8} {n p f : Nat} (h : WhI l n p f) (hl : l.length = n) (hp : p < n) : (wid (l.drop p) = 0 → wholeF l.length l = false) ∧ (0 < wid (l.drop p) → WhI l n (p + wid (l.drop p)) (f - 1)) ∧ p + wid (l.drop p) ≤ n := by
  have hne : l.drop p ≠ [] := fun e => by have := congrArg List.length e; rw [List.length_drop, List.length_nil] at this; omega
  have hw := wid_len hne
  rw [List.length_drop] at hw
  have he := h.eq
  have hf := h.fu
  obtain ⟨m, rfl⟩ : ∃ m, f = m + 1 := ⟨f - 1, by omega⟩
  rw [wholeF, if_neg hne, List.drop_drop] at he
  refine ⟨fun h0 => by rw [← he, if_pos h0], fun h0 => ⟨by omega, by omega, ?_⟩, by omega⟩
  rw [if_neg (by omega)] at he
  exact he

set_option maxHeartbeats 1000000 in
set_option maxRecDepth 100000 in
theorem refWhole_any (w : World) (a : Option Addr) (n c : Nat) (l : List UInt8) (hA : SB w (.slice a n c) (bI l)) :
    Calls Tryd.prog 23 #[.slice a n c] w fun e w' => e = .returned (.bool (wholeF l.length l)) ∧ w' = w := by
  obtain ⟨hl, hn⟩ := hA.len
  rw [bI_len] at hl
  have hbig : n ≤ 140737488351232 := by omega
  have HA := Lib.hid hA
  have HL := Lib.hid hl
  have HI : Hid (WhI l n 0 l.length) := Lib.hid ⟨by omega, by omega, rfl⟩
  clear hA hl hn
  generalize hR : wholeF l.length l = R
  have HRE := Lib.hid hR
  clear hR
  go_enter Tryd.func23, Tryd.ntmps23
  go_wp2_with fail
  go_loopw [3] (fun v3 wr => ∃ (p f : Nat), v3 = .int .i64 (p : Int) ∧ wr = w ∧ WhI l n p f) (fun v3 _ => n - (intOf v3).toNat)
  case atStart => exact ⟨0, _, rfl, rfl, HI.out⟩
  case round =>
    clear HI
    obtain ⟨p, f, rfl, rfl, hI⟩ := hrel
    have HI := Lib.hid hI
    clear hI
    by_cases hp : p < n
    · have d1 : decide ((p : Int) < (n : Int)) = true := decide_eq_true (by omega)
      have HN := Lib.hid (HI.out.next HL.out hp)
      have HS := Lib.hid (refSize_any wr a n c l HA.out p hp)
      generalize wid (l.drop p) = k at HN HS
      have hkn := HN.out.2.2
      go_wp2_with (go_at_call 54; refine HS.out.mono ?_)
      rintro e w1 ⟨rfl, rfl⟩
      by_cases hk : k = 0
      · have d2 : ((k : Int) == 0) = true := by simp [hk]
        have HF := Lib.hid (HRE.out.symm.trans (HN.out.1 hk))
        clear hk
        go_wp2_with fail
        go_ret
        exact ⟨by rw [HF.out]; rfl, rfl⟩
      · have d2 : ((k : Int) == 0) = false := by simp; omega
        have HN2 := Lib.hid (HN.out.2.1 (by omega))
        go_wp2_with fail
        go_roundw
        case rel => exact ⟨p + k, _, by rw [Int.natCast_add], trivial, HN2.out⟩
        case measure => simp only [intOf]; omega
    · have d1 : decide ((p : Int) < (n : Int)) = false := decide_eq_false (by omega)
      have HF := Lib.hid (HRE.out.symm.trans (HI.out.done HL.out hp))
      go_wp2_with fail
      go_ret
      exact ⟨by rw [HF.out]; rfl, rfl⟩
end Go.Proofs.YtboikhalfffioaaDoor
