/-
  What Show writes is made of escapes and of whole characters: how it is read back, that it is readable, that it is whole (plain mathematics).
-/
import Derived.Test.YtboikhalfffioaaDoorSz
namespace Go.Proofs.YtboikhalfffioaaDoor
open Go.RowKit

theorem dec1 {n b0 b1 b2 b3 : Nat} (h : b0 < 128) : Lib.decodeN n b0 b1 b2 b3 = (b0, 1) := by unfold Lib.decodeN; rw [if_pos h]
theorem dec2 {n b0 b1 b2 b3 : Nat} (h : b0 / 32 = 6) (h1 : 1 < n) (h2 : b1 / 64 = 2) (h3 : 128 ≤ b0 % 32 * 64 + b1 % 64) : Lib.decodeN n b0 b1 b2 b3 = (b0 % 32 * 64 + b1 % 64, 2) := by
  unfold Lib.decodeN
  rw [if_neg (by omega), if_pos ⟨h, h1, h2⟩, if_pos h3]
theorem dec3 {n b0 b1 b2 b3 : Nat} (h : b0 / 16 = 14) (h1 : 2 < n) (h2 : b1 / 64 = 2) (h3 : b2 / 64 = 2) (h4 : 2048 ≤ b0 % 16 * 4096 + b1 % 64 * 64 + b2 % 64)
    (h5 : b0 % 16 * 4096 + b1 % 64 * 64 + b2 % 64 < 55296 ∨ 57344 ≤ b0 % 16 * 4096 + b1 % 64 * 64 + b2 % 64) : Lib.decodeN n b0 b1 b2 b3 = (b0 % 16 * 4096 + b1 % 64 * 64 + b2 % 64, 3) := by
  unfold Lib.decodeN
  rw [if_neg (by omega), if_neg (by omega), if_pos ⟨h, ⟨by omega, h2⟩, h1, h3⟩, if_pos ⟨h4, by omega⟩]
theorem dec4 {n b0 b1 b2 b3 : Nat} (h : b0 / 8 = 30) (h1 : 3 < n) (h2 : b1 / 64 = 2) (h3 : b2 / 64 = 2) (h6 : b3 / 64 = 2) (h4 : 65536 ≤ b0 % 8 * 262144 + b1 % 64 * 4096 + b2 % 64 * 64 + b3 % 64)
    (h5 : b0 % 8 * 262144 + b1 % 64 * 4096 + b2 % 64 * 64 + b3 % 64 ≤ 1114111) : Lib.decodeN n b0 b1 b2 b3 = (b0 % 8 * 262144 + b1 % 64 * 4096 + b2 % 64 * 64 + b3 % 64, 4) := by
  unfold Lib.decodeN
  rw [if_neg (by omega), if_neg (by omega), if_neg (by omega), if_pos ⟨h, ⟨by omega, h2⟩, ⟨by omega, h3⟩, h1, h6⟩, if_pos ⟨h4, by omega⟩]
theorem wid_ok {l : List UInt8} (h : 0 < wid l) : wid l = (Lib.decodeL l).2 := wid_pos fun e => by rw [wid, if_pos e] at h; omega
theorem wid_of {l : List UInt8} {r k : Nat} (h : Lib.decodeL l = (r, k)) (hk : ¬ k = 1 ∨ ¬ r = 65533) : wid l = k := by
  rw [wid, h, if_neg (fun e => by rcases hk with h1 | h1; exact h1 e.2; exact h1 e.1)]
theorem getD_take {l m : List UInt8} {k : Nat} (h : m.take k = l.take k) {i : Nat} (hi : i < k) : m.getD i 0 = l.getD i 0 := by
  have := congrArg (fun t : List UInt8 => t[i]?) h
  simp only [List.getElem?_take_of_lt hi] at this
  rw [List.getD, List.getD, this]
/-- What stands behind a whole character is nothing to it. -/
theorem dec_agree (l m : List UInt8) (h : 0 < wid l) (hl : wid l ≤ l.length) (hm : m.take (wid l) = l.take (wid l)) : Lib.decodeL m = Lib.decodeL l := by
  have hw := wid_ok h
  have hml : wid l ≤ m.length := by
    have := congrArg List.length hm
    rw [List.length_take, List.length_take] at this
    omega
  generalize hk : wid l = k at *
  have hb : Lib.decodeL l ≠ (65533, 1) := fun e => by
    rw [wid, e, if_pos ⟨rfl, rfl⟩] at hk
    omega
  rw [Lib.decodeL_N] at hw hb
  rw [Lib.decodeL_N, Lib.decodeL_N]
  rcases Lib.decodeN_shape l.length (l.getD 0 0).toNat (l.getD 1 0).toNat (l.getD 2 0).toNat (l.getD 3 0).toNat with ⟨c, e⟩ | ⟨c1, c2, c3, cv, e⟩ | ⟨c1, c2, c3, c4, cv, cs, e⟩ | ⟨c1, c2, c3, c4, c5, cv, cw, e⟩ | e
  · rw [e] at hw ⊢
    rw [getD_take hm (by omega)]
    exact dec1 c
  · rw [e] at hw ⊢
    dsimp only at hw
    rw [getD_take hm (show 0 < k by omega), getD_take hm (show 1 < k by omega)]
    exact dec2 c1 (by omega) c3 cv
  · rw [e] at hw ⊢
    dsimp only at hw
    rw [getD_take hm (show 0 < k by omega), getD_take hm (show 1 < k by omega), getD_take hm (show 2 < k by omega)]
    exact dec3 c1 (by omega) c3 c4 cv cs
  · rw [e] at hw ⊢
    dsimp only at hw
    rw [getD_take hm (show 0 < k by omega), getD_take hm (show 1 < k by omega), getD_take hm (show 2 < k by omega), getD_take hm (show 3 < k by omega)]
    exact dec4 c1 (by omega) c3 c4 c5 cv cw
  · exact absurd e hb
theorem wid_len {l : List UInt8} (h : l ≠ []) : wid l ≤ l.length := (wid_le _ h).1
theorem wid_agree (l m : List UInt8) (hl : l ≠ []) (h : 0 < wid l) (hm : m.take (wid l) = l.take (wid l)) : wid m = wid l := by
  have := dec_agree l m h (wid_len hl) hm
  unfold wid
  rw [this]
/-- The bytes of a whole character: one below 128, or all from 128 on. -/
theorem wid_bytes (l : List UInt8) (h : 0 < wid l) : (wid l = 1 ∧ (l.getD 0 0).toNat < 128 ∧ (Lib.decodeL l).1 = (l.getD 0 0).toNat) ∨ ∀ x ∈ l.take (wid l), 128 ≤ x.toNat := by
  have hw := wid_ok h
  have hb : Lib.decodeL l ≠ (65533, 1) := fun e => by
    rw [wid, e, if_pos ⟨rfl, rfl⟩] at h
    omega
  rw [Lib.decodeL_N] at hw hb ⊢
  have key : ∀ x ∈ l.take (wid l), ∃ i, i < wid l ∧ l.getD i 0 = x := fun x hx => by
    obtain ⟨i, hi, e⟩ := List.getElem_of_mem hx
    rw [List.length_take] at hi
    rw [List.getElem_take] at e
    exact ⟨i, by omega, by rw [List.getD, List.getElem?_eq_getElem (by omega), e]; rfl⟩
  rcases Lib.decodeN_shape l.length (l.getD 0 0).toNat (l.getD 1 0).toNat (l.getD 2 0).toNat (l.getD 3 0).toNat with ⟨c, e⟩ | ⟨c1, c2, c3, cv, e⟩ | ⟨c1, c2, c3, c4, cv, cs, e⟩ | ⟨c1, c2, c3, c4, c5, cv, cw, e⟩ | e
  · rw [e] at hw ⊢
    exact .inl ⟨hw, c, rfl⟩
  · rw [e] at hw
    refine .inr fun x hx => ?_
    obtain ⟨i, hi, rfl⟩ := key x hx
    dsimp only at hw
    rcases (by omega : i = 0 ∨ i = 1) with rfl | rfl <;> omega
  · rw [e] at hw
    refine .inr fun x hx => ?_
    obtain ⟨i, hi, rfl⟩ := key x hx
    dsimp only at hw
    rcases (by omega : i = 0 ∨ i = 1 ∨ i = 2) with rfl | rfl | rfl <;> omega
  · rw [e] at hw
    refine .inr fun x hx => ?_
    obtain ⟨i, hi, rfl⟩ := key x hx
    dsimp only at hw
    rcases (by omega : i = 0 ∨ i = 1 ∨ i = 2 ∨ i = 3) with rfl | rfl | rfl | rfl <;> omega
  · exact absurd e hb
/-- A byte that stands as it is. -/
def Good (x : UInt8) : Prop := 32 ≤ x.toNat ∧ x.toNat ≠ 127 ∧ x.toNat ≠ 34 ∧ x.toNat ≠ 92
theorem raw_good (l : List UInt8) (hne : l ≠ []) (h : 0 < wid l) (hf : fairR ((Lib.decodeL l).1 : Int) = true) : ∀ x ∈ l.take (wid l), Good x := by
  rcases wid_bytes l h with ⟨h1, h2, h3⟩ | h1
  · intro x hx
    rw [h1] at hx
    rw [h3] at hf
    have hl := wid_len hne
    cases l with
    | nil => simp at hx
    | cons y t =>
      simp at hx hf h2 ⊢
      subst hx
      unfold fairR at hf
      simp at hf
      unfold Good
      omega
  · intro x hx
    have := h1 x hx
    unfold Good
    omega
/-- A text that Show writes between the quotes, and the bytes that it says. -/
inductive Shown : List UInt8 → List UInt8 → Prop
  | nil : Shown [] []
  | esc (x : UInt8) (t b : List UInt8) : Shown t b → Shown (escL x ++ t) (x :: b)
  | raw (c t b : List UInt8) : 0 < c.length → (∀ r, wid (c ++ r) = c.length) → (∀ x ∈ c, Good x) → Shown t b → Shown (c ++ t) (c ++ b)
theorem shown_flat (m t b : List UInt8) (h : Shown t b) : Shown (m.flatMap escL ++ t) (m ++ b) := by
  induction m with
  | nil => exact h
  | cons x m ih =>
    rw [List.flatMap_cons, List.append_assoc]
    exact .esc x _ _ ih
theorem dec2_max {l : List UInt8} (h : l ≠ []) : (Lib.decodeL l).2 = max (wid l) 1 := by
  have := wid_le l h
  unfold wid at *
  split at this
  · next e => rw [if_pos e, e.2]; rfl
  · next e => rw [if_neg e]; omega
theorem body_shown (n : Nat) (l : List UInt8) (h : l.length ≤ n) : Shown (bodyL n l) l := by
  induction n generalizing l with
  | zero =>
    obtain rfl : l = [] := List.eq_nil_of_length_eq_zero (by omega)
    exact .nil
  | succ n ih =>
    unfold bodyL
    by_cases he : l = []
    · rw [if_pos he, he]; exact .nil
    · rw [if_neg he]
      have hw := wid_le l he
      have hI := ih (l.drop (Lib.decodeL l).2) (by rw [List.length_drop]; omega)
      have hd := dec2_max he
      unfold oneL
      by_cases hc : 0 < wid l ∧ fairR ((Lib.decodeL l).1 : Int) = true
      · rw [if_pos hc]
        have hk : (l.take (wid l)).length = wid l := by rw [List.length_take]; omega
        have := Shown.raw (l.take (wid l)) _ _ (by omega) (fun r => by
          rw [hk]
          exact wid_agree l _ he hc.1 (by rw [List.take_append_of_le_length (by omega), List.take_take, Nat.min_self])) (raw_good l he hc.1 hc.2) hI
        rw [show (Lib.decodeL l).2 = wid l by omega] at this ⊢
        rwa [List.take_append_drop] at this
      · rw [if_neg hc]
        have := shown_flat (l.take (max (wid l) 1)) _ _ hI
        rw [hd] at this ⊢
        rwa [List.take_append_drop] at this
/-! ### read back -/
theorem hex_back : ∀ k : Nat, k < 16 → Lib.indexByte hexS (hexB k) = (k : Int) := by decide +kernel
theorem next_esc (x : UInt8) (t : List UInt8) : nextL (escL x ++ t) = (x, (escL x).length) := by
  unfold escL
  split
  · next h => subst h; simp [nextL]
  split
  · next h => subst h; simp [nextL]
  split
  · next h => subst h; simp [nextL]
  split
  · next h => subst h; simp [nextL]
  split
  · next h => subst h; simp [nextL]
  · have hx := x.toNat_lt
    have e1 := hex_back (x.toNat / 16) (by omega)
    have e2 := hex_back (x.toNat % 16) (by omega)
    simp only [nextL, List.cons_append, List.nil_append, List.getD_cons_zero, List.getD_cons_succ, ne_eq, not_true, if_false, List.length_cons]
    rw [if_neg (by omega), if_neg (by decide), if_neg (by decide), if_neg (by decide), if_pos trivial, if_neg (by omega), e1, e2, if_neg (by omega)]
    have : ((x.toNat / 16 : Nat) : Int).toNat * 16 + ((x.toNat % 16 : Nat) : Int).toNat = x.toNat := by omega
    rw [this, UInt8.ofNat_toNat]
    rfl
theorem esc_pos (x : UInt8) : 0 < (escL x).length := by
  unfold escL
  repeat' split
  all_goals simp
theorem good_ne {x : UInt8} (h : Good x) : x ≠ 92 := fun e => h.2.2.2 (by rw [e]; rfl)
theorem next_good (x : UInt8) (t : List UInt8) (h : Good x) : nextL (x :: t) = (x, 1) := by
  unfold nextL
  rw [if_pos (by simpa using good_ne h)]
  rfl
def RdTo (t b : List UInt8) : Prop := ∀ n, t.length ≤ n → readF n t = some b
theorem rd_step {t r b : List UInt8} {x : UInt8} (hk : 0 < t.length) (hn : nextL (t ++ r) = (x, t.length)) (h : RdTo r b) : RdTo (t ++ r) (x :: b) := by
  intro n hl
  rw [List.length_append] at hl
  obtain ⟨m, rfl⟩ : ∃ m, n = m + 1 := ⟨n - 1, by omega⟩
  unfold readF
  rw [if_neg (fun e => by have := congrArg List.length e; rw [List.length_append, List.length_nil] at this; omega), hn]
  dsimp only
  rw [if_neg (by omega), List.drop_left, h m (by omega)]
  rfl
theorem rd_raw (c t b : List UInt8) (hc : ∀ x ∈ c, Good x) (h : RdTo t b) : RdTo (c ++ t) (c ++ b) := by
  induction c with
  | nil => exact h
  | cons x c ih =>
    have := rd_step (t := [x]) (r := c ++ t) (b := c ++ b) (x := x) (by simp) (next_good x _ (hc x (by simp))) (ih fun y hy => hc y (by simp [hy]))
    exact this
theorem shown_read {t b : List UInt8} (h : Shown t b) : RdTo t b := by
  induction h with
  | nil => intro n _; cases n <;> rfl
  | esc x t b _ ih => exact rd_step (esc_pos x) (next_esc x t) ih
  | raw c t b _ _ hg _ ih => exact rd_raw c t b hg ih
theorem show_mid (l : List UInt8) : ((showL l).drop 1).take ((showL l).length - 2) = bodyL l.length l := by
  unfold showL
  simp
/-- What is shown is read back. -/
theorem read_show (l : List UInt8) : readL (showL l) = some l := by
  have h := shown_read (body_shown l.length l (Nat.le_refl _))
  have hlen : (showL l).length = (bodyL l.length l).length + 2 := by simp [showL]
  unfold readL
  rw [if_neg (by omega), show_mid, h _ (by omega)]
  exact if_pos rfl
theorem show_inj {l m : List UInt8} (h : showL l = showL m) : l = m := Option.some.inj ((read_show l).symm.trans ((congrArg readL h).trans (read_show m)))
theorem read_is {s b : List UInt8} (h : readL s = some b) : showL b = s := by
  unfold readL at h
  split at h
  · cases h
  · split at h
    · cases h
    · split at h
      · next e => cases h; exact e
      · cases h
/-! ### readable -/
/-- The walk of plain between the quotes. -/
def plainF : Bool → List UInt8 → Bool
  | s, [] => !s
  | s, x :: t => if x.toNat < 32 ∨ x.toNat = 127 ∨ (x.toNat = 34 ∧ s = false) then false else plainF (decide (x.toNat = 92) && !s) t
theorem hexB_range : ∀ k : Nat, k < 16 → 48 ≤ (hexB k).toNat ∧ (hexB k).toNat < 103 ∧ ¬ (hexB k).toNat = 92 := by decide
theorem plain_good (x : UInt8) (t : List UInt8) (h : Good x) : plainF false (x :: t) = plainF false t := by
  obtain ⟨h1, h2, h3, h4⟩ := h
  rw [plainF, if_neg (by omega), decide_eq_false h4]
  rfl
theorem plain_raw (c t : List UInt8) (hc : ∀ x ∈ c, Good x) : plainF false (c ++ t) = plainF false t := by
  induction c with
  | nil => rfl
  | cons x c ih =>
    rw [List.cons_append, plain_good x _ (hc x (by simp))]
    exact ih fun y hy => hc y (by simp [hy])
theorem plain_esc (x : UInt8) (t : List UInt8) : plainF false (escL x ++ t) = plainF false t := by
  unfold escL
  split
  · simp [plainF]
  split
  · simp [plainF]
  split
  · simp [plainF]
  split
  · simp [plainF]
  split
  · simp [plainF]
  · have hx := x.toNat_lt
    have h1 := hexB_range (x.toNat / 16) (by omega)
    have h2 := hexB_range (x.toNat % 16) (by omega)
    have g1 : Good (hexB (x.toNat / 16)) := ⟨by omega, by omega, by omega, by omega⟩
    have g2 : Good (hexB (x.toNat % 16)) := ⟨by omega, by omega, by omega, by omega⟩
    have e := plain_good _ (hexB (x.toNat % 16) :: t) g1
    rw [plain_good _ t g2] at e
    simp only [List.cons_append, List.nil_append]
    rw [← e]
    rfl
theorem shown_plain {t b : List UInt8} (h : Shown t b) : plainF false t = true := by
  induction h with
  | nil => rfl
  | esc x t b _ ih => rw [plain_esc, ih]
  | raw c t b _ _ hg _ ih => rw [plain_raw c t hg, ih]
/-! ### whole characters -/
def wholeF : Nat → List UInt8 → Bool
  | 0, _ => true
  | n + 1, l => if l = [] then true else if wid l = 0 then false else wholeF n (l.drop (wid l))
def Whl (t : List UInt8) : Prop := ∀ n, wholeF n t = true
theorem whl_raw {c t : List UInt8} (h0 : 0 < c.length) (hw : wid (c ++ t) = c.length) (h : Whl t) : Whl (c ++ t) := by
  intro n
  cases n with
  | zero => rfl
  | succ n =>
    unfold wholeF
    rw [if_neg (fun e => by have := congrArg List.length e; rw [List.length_append, List.length_nil] at this; omega), hw, if_neg (by omega), List.drop_left]
    exact h n
theorem whl_one {x : UInt8} {t : List UInt8} (h0 : x.toNat < 128) (h : Whl t) : Whl (x :: t) := by
  have hd : Lib.decodeL (x :: t) = (x.toNat, 1) := by
    rw [Lib.decodeL_N]
    exact dec1 h0
  exact whl_raw (c := [x]) (by simp) (wid_of hd (.inr (by omega))) h
theorem whl_small (c : List UInt8) {t : List UInt8} (h0 : ∀ x ∈ c, x.toNat < 128) (h : Whl t) : Whl (c ++ t) := by
  induction c with
  | nil => exact h
  | cons x c ih => exact whl_one (h0 x (by simp)) (ih fun y hy => h0 y (by simp [hy]))
theorem esc_small (x : UInt8) : ∀ y ∈ escL x, y.toNat < 128 := by
  unfold escL
  have hx := x.toNat_lt
  have h1 := hexB_range (x.toNat / 16) (by omega)
  have h2 := hexB_range (x.toNat % 16) (by omega)
  repeat' split
  all_goals (intro y hy; simp at hy; rcases hy with rfl | hy)
  all_goals (first | decide | (rcases hy with rfl | rfl | rfl <;> first | decide | omega) | (subst hy; decide))
theorem shown_whole {t b : List UInt8} (h : Shown t b) : Whl (t ++ [34]) := by
  induction h with
  | nil => exact whl_one (by decide) (fun n => by cases n <;> rfl)
  | esc x t b _ ih => rw [List.append_assoc]; exact whl_small _ (esc_small x) ih
  | raw c t b h0 hw _ _ ih => rw [List.append_assoc]; exact whl_raw h0 (hw _) ih
theorem show_whole (l : List UInt8) : Whl (showL l) := whl_one (by decide) (shown_whole (body_shown l.length l (Nat.le_refl _)))
/-! ### behind whole characters -/
theorem body_fuel (n m : Nat) (l : List UInt8) (hn : l.length ≤ n) (hm : l.length ≤ m) : bodyL n l = bodyL m l := by
  induction n generalizing l m with
  | zero =>
    obtain rfl : l = [] := List.eq_nil_of_length_eq_zero (by omega)
    cases m <;> simp [bodyL]
  | succ n ih =>
    cases m with
    | zero =>
      obtain rfl : l = [] := List.eq_nil_of_length_eq_zero (by omega)
      simp [bodyL]
    | succ m =>
      unfold bodyL
      by_cases he : l = []
      · rw [if_pos he, if_pos he]
      · rw [if_neg he, if_neg he]
        have := wid_le l he
        rw [ih m _ (by rw [List.length_drop]; omega) (by rw [List.length_drop]; omega)]
theorem body_join (n : Nat) (a b : List UInt8) (hn : a.length ≤ n) (h : wholeF n a = true) : bodyL (a.length + b.length) (a ++ b) = bodyL a.length a ++ bodyL b.length b := by
  induction n generalizing a with
  | zero =>
    obtain rfl : a = [] := List.eq_nil_of_length_eq_zero (by omega)
    simp [bodyL]
  | succ n ih =>
    by_cases he : a = []
    · subst he; simp [bodyL]
    · unfold wholeF at h
      rw [if_neg he] at h
      by_cases hw : wid a = 0
      · rw [if_pos hw] at h; cases h
      · rw [if_neg hw] at h
        have hw0 : 0 < wid a := by omega
        have hwl := wid_len he
        have hd := dec_agree a (a ++ b) hw0 hwl (List.take_append_of_le_length hwl)
        have hwd : wid (a ++ b) = wid a := by unfold wid; rw [hd]
        have hk := wid_ok hw0
        have hI := ih (a.drop (wid a)) (by rw [List.length_drop]; omega) h
        rw [List.length_drop] at hI
        have h1 : bodyL a.length a = oneL a ++ bodyL (a.length - wid a) (a.drop (wid a)) := by
          rw [body_fuel a.length (a.length - 1 + 1) a (Nat.le_refl _) (by omega)]
          conv => lhs; unfold bodyL
          rw [if_neg he, ← hk, body_fuel (a.length - 1) (a.length - wid a) _ (by rw [List.length_drop]; omega) (by rw [List.length_drop]; omega)]
        have hone : oneL (a ++ b) = oneL a := by
          unfold oneL
          rw [hwd, hd, List.take_append_of_le_length hwl, List.take_append_of_le_length (by omega)]
        rw [h1, List.append_assoc, ← hI, ← hone]
        rw [body_fuel (a.length + b.length) (a.length + b.length - 1 + 1) _ (by rw [List.length_append]; omega) (by rw [List.length_append]; omega)]
        conv => lhs; unfold bodyL
        rw [if_neg (by simp [he]), hd, ← hk, List.drop_append_of_le_length hwl, body_fuel _ (a.length - wid a + b.length) _ (by rw [List.length_append, List.length_drop]; omega) (by rw [List.length_append, List.length_drop]; omega)]
theorem show_join (a b : List UInt8) (h : wholeF a.length a = true) : showL (a ++ b) = (showL a).take ((showL a).length - 1) ++ (showL b).drop 1 := by
  unfold showL
  rw [List.length_append, body_join a.length a b (Nat.le_refl _) h]
  simp
end Go.Proofs.YtboikhalfffioaaDoor
