/-
  bytes.CutSuffix, bytes.Cut, bytes.Equal, at lists of bytes.
-/
import Derived.Test.YtkiiidhfjieknaaDoorRow
import Derived.Test.YtkiiidhfjieknaaDoorShelfB
import Derived.Lib.IndexLaws
namespace Go.Proofs.YtkiiidhfjieknaaDoor
open Go.RowKit

/-- A slice that reads as bytes, whose capacity is no less than its length. -/
def SBC (w : World) (a : Option Addr) (n c : Nat) (l : List Int) : Prop := SB w (.slice a n c) l ∧ n ≤ c ∧ (a = none → c = 0)
theorem SBC.below {w w' : World} {a : Option Addr} {n c : Nat} {l : List Int} (h : SBC w a n c l) (hb : Below w.heap.size w w') : SBC w' a n c l := ⟨h.1.below hb, h.2⟩
theorem SBC.len {w : World} {a : Option Addr} {n c : Nat} {l : List Int} (h : SBC w a n c l) : l.length = n := (h.1.len).1
theorem SBC.drew {w : World} {a : Option Addr} {n c : Nat} {l : List Int} (h : SBC w a n c l) (q : Nat) : SBC (w.drewN q) a n c l := h.below (below_drewN (Below.refl _ _) q)
theorem SBC.inB {w : World} {a : Option Addr} {n c : Nat} {l : List Int} (h : SBC w a n c l) : InB l := inB_of h.1.1
theorem SBC.cells {w : World} {a : Option Addr} {n c : Nat} {l : List Int} (h : SBC w a n c l) (hn : 0 < n) : ∃ b o, a = some ⟨b, o, none⟩ ∧ ∀ i : Nat, i < n → w.cell? ⟨b, o + i, none⟩ = some (.int .u8 (l[i]?.getD 0)) := by
  have hl := h.len
  obtain ⟨⟨_, a', c', e, _, h3⟩, _⟩ := h
  simp only [Value.slice.injEq] at e
  obtain ⟨rfl, _, rfl⟩ := e
  obtain ⟨b, o, e, hc⟩ := h3.resolve_left (by intro e; rw [e] at hl; simp at hl; omega)
  exact ⟨b, o, e, fun i hi => hc i (by omega)⟩
theorem SBC.bytesIn {w : World} {a : Option Addr} {n c : Nat} {l : List Int} (h : SBC w a n c l) : Lib.BytesIn w a n l := fun hn => by
  obtain ⟨b, o, e, hc⟩ := h.cells hn
  refine ⟨b, o, e, fun i hi => ?_⟩
  rw [hc i hi, List.getD_eq_getElem?_getD]
theorem SBC.mk' {w : World} {b o n c : Nat} {l : List Int} (hl : l.length = n) (hB : InB l) (hn : n ≤ 140737488351232) (hc : n ≤ c) (h : ∀ i : Nat, i < n → w.cell? ⟨b, o + i, none⟩ = some (.int .u8 (l[i]?.getD 0))) : SBC w (some ⟨b, o, none⟩) n c l := by
  subst hl
  exact ⟨⟨inB_isB hB, _, _, rfl, hn, .inr ⟨b, o, rfl, h⟩⟩, hc, fun e => by cases e⟩
theorem SBC.nil {w : World} (a : Option Addr) (c : Nat) (h : a = none → c = 0) : SBC w a 0 c [] := ⟨⟨isB_nil, a, c, rfl, by simp, .inl rfl⟩, Nat.zero_le _, h⟩
theorem lit_sbc (w : World) (l : List Int) (n : Nat) (hn : l.length = n) (hB : InB l) (hl : n ≤ 100) : SBC (w.alloc (.cells (row l) 5)) (some ⟨w.heap.size, 0, none⟩) n n l := by
  refine SBC.mk' hn hB (by omega) (Nat.le_refl _) fun i hi => ?_
  rw [Nat.zero_add, cell_of_row _ _ i (row l) 5 (0, 0) (heap_alloc_new w _), row_get l i (by omega)]
theorem OwnB.toSBC {w : World} {base : Nat} {v : Value} {l : List Int} (h : OwnB w base v l) (hB : IsB l) (hl : l.length ≤ 140737488351232) : ∃ ad cap, v = .slice ad l.length cap ∧ SBC w ad l.length cap l := by
  obtain ⟨ad, cap, e, h1, h2, h3⟩ := h.sbn hB hl
  subst e
  exact ⟨ad, cap, rfl, h3, h1, h2⟩

theorem ofNat_inj {x y : Int} (hx : 0 ≤ x ∧ x ≤ 255) (hy : 0 ≤ y ∧ y ≤ 255) (h : UInt8.ofNat x.toNat = UInt8.ofNat y.toNat) : x = y := by
  have := congrArg UInt8.toNat h
  simp only [UInt8.toNat_ofNat'] at this
  omega
theorem bytesOf_inj (a b : List Int) (ha : InB a) (hb : InB b) (h : Lib.bytesOf a = Lib.bytesOf b) : a = b := by
  induction a generalizing b with
  | nil => cases b with
    | nil => rfl
    | cons y t => simp [Lib.bytesOf] at h
  | cons x s ih => cases b with
    | nil => simp [Lib.bytesOf] at h
    | cons y t =>
      simp only [Lib.bytesOf, List.map_cons, List.cons.injEq] at h
      rw [ofNat_inj (ha x (by simp)) (hb y (by simp)) h.1, ih t (fun c hc => ha c (List.mem_cons_of_mem _ hc)) (fun c hc => hb c (List.mem_cons_of_mem _ hc)) h.2]
theorem bytesOf_eq (a b : List Int) (ha : InB a) (hb : InB b) : (Lib.bytesOf a == Lib.bytesOf b) = decide (a = b) := by
  rw [Bool.eq_iff_iff]
  simp only [beq_iff_eq, decide_eq_true_eq]
  exact ⟨bytesOf_inj a b ha hb, fun h => by rw [h]⟩

/-! ### bytes.Equal -/
theorem equal_any (w : World) (a1 a2 : Option Addr) (n c m d : Nat) (xs ys : List Int) (h1 : SBC w a1 n c xs) (h2 : SBC w a2 m d ys) : Calls Tryd.prog 45 #[.slice a1 n c, .slice a2 m d] w fun e w' => e = .returned (.bool (decide (xs = ys))) ∧ w' = w := by
  have h := Tryd.bytes_Equal_all a1 a2 n c m d xs ys w h1.len h2.len h1.bytesIn h2.bytesIn
  rw [bytesOf_eq xs ys h1.inB h2.inB] at h
  exact h

/-! ### bytes.CutSuffix, at a dollar sign and a line end -/
def endsL (l : List Int) : Bool := decide (2 ≤ l.length ∧ l.drop (l.length - 2) = [36, 10])
theorem inB_two (x y : Int) (h : 0 ≤ x ∧ x ≤ 255 ∧ 0 ≤ y ∧ y ≤ 255) : InB [x, y] := fun c hc => by
  simp only [List.mem_cons, List.not_mem_nil, or_false] at hc
  rcases hc with rfl | rfl <;> omega
theorem ends_is (l : List Int) (h : InB l) : Lib.hasSuffix (Lib.bytesOf l) (Lib.bytesOf [36, 10]) = endsL l := by
  unfold Lib.hasSuffix endsL
  rw [Bool.eq_iff_iff, List.isSuffixOf_iff_suffix, decide_eq_true_eq]
  constructor
  · rintro ⟨t, ht⟩
    have hlen : l.length = t.length + 2 := by
      have := congrArg List.length ht
      simp [Lib.bytesOf] at this
      omega
    refine ⟨by omega, ?_⟩
    refine bytesOf_inj _ _ (fun c hc => h c (List.mem_of_mem_drop hc)) (inB_two 36 10 (by omega)) ?_
    have e : Lib.bytesOf (l.drop (l.length - 2)) = (Lib.bytesOf l).drop (l.length - 2) := by simp [Lib.bytesOf, List.map_drop]
    rw [e, ← ht, hlen]
    simp
  · rintro ⟨h2, hd⟩
    refine ⟨Lib.bytesOf (l.take (l.length - 2)), ?_⟩
    rw [← hd]
    unfold Lib.bytesOf
    rw [← List.map_append, List.take_append_drop]
def SuffPost (w : World) (a : Option Addr) (n c : Nat) (l : List Int) (e : Ending) (w' : World) : Prop :=
  e = .returned (.tuple #[.slice a (if endsL l then n - 2 else n) c, .bool (endsL l)]) ∧ w' = w
theorem cutSuffix_any (w : World) (a a2 : Option Addr) (n c d : Nat) (l : List Int) (h : SBC w a n c l) (h2 : SBC w a2 2 d [36, 10]) : Calls Tryd.prog 42 #[.slice a n c, .slice a2 2 d] w (SuffPost w a n c l) := by
  have hn := h.1.len.2
  refine (Tryd.bytes_CutSuffix_all a a2 n c 2 d l [36, 10] w h.len rfl h.2.1 (by omega) h.bytesIn h2.bytesIn).mono fun e w' ⟨he, hw⟩ => ⟨he.trans ?_, hw⟩
  rw [ends_is l h.inB]
  have e2 : Lib.trimSuffixV a n c l [36, 10] = .slice a (if endsL l then n - 2 else n) c := by
    by_cases hz : 0 < n
    · obtain ⟨b, o, rfl, -⟩ := h.cells hz
      unfold Lib.trimSuffixV Lib.bytesTrimSuffix Lib.sliceTo
      simp only [ends_is l h.inB]
      split <;> rfl
    · obtain rfl : n = 0 := by omega
      have : endsL l = false := by
        have := h.len
        unfold endsL
        exact decide_eq_false (by omega)
      rw [this]
      unfold Lib.trimSuffixV Lib.bytesTrimSuffix Lib.sliceTo
      have hE := ends_is l h.inB
      rw [this] at hE
      split
      · simp only [hE]; rfl
      · rfl
  rw [e2]

/-! ### bytes.Cut, at a backslash and a line end -/
theorem index_cut (l : List Int) (h : InB l) : Lib.index (Lib.bytesOf l) (Lib.bytesOf [92, 10]) = match cutL l with | none => -1 | some x => (x.1.length : Int) := by
  induction l with
  | nil => rfl
  | cons c t ih =>
    have ih := ih fun x hx => h x (List.mem_cons_of_mem _ hx)
    have hc := h c (by simp)
    have hp : (Lib.bytesOf [92, 10]).isPrefixOf (Lib.bytesOf (c :: t)) = decide (c = 92 ∧ t.head? = some 10) := by
      rw [Bool.eq_iff_iff, decide_eq_true_eq]
      cases t with
      | nil => simp [Lib.bytesOf, List.isPrefixOf]
      | cons d u =>
        have hd := h d (by simp)
        simp only [Lib.bytesOf, List.map_cons, List.map_nil, List.isPrefixOf, Bool.and_true, Bool.and_eq_true, beq_iff_eq, List.head?_cons, Option.some.injEq]
        constructor
        · rintro ⟨e1, e2⟩
          exact ⟨(ofNat_inj (by omega) hc e1).symm, (ofNat_inj (by omega) hd e2).symm⟩
        · rintro ⟨rfl, rfl⟩; exact ⟨rfl, rfl⟩
    have e : Lib.bytesOf (c :: t) = UInt8.ofNat c.toNat :: Lib.bytesOf t := rfl
    rw [e, Lib.index, ← e, hp, ih, cutL]
    by_cases hq : c = 92 ∧ t.head? = some 10
    · rw [if_pos (by simpa using hq), if_pos hq]; rfl
    · rw [if_neg (by simpa using hq), if_neg hq]
      cases hk : cutL t with
      | none => simp
      | some x =>
        have hne : ((x.1.length : Int) == -1) = false := by rw [beq_eq_false_iff_ne]; omega
        simp [hne]
def CutPost (w : World) (a : Option Addr) (n c : Nat) (l : List Int) (e : Ending) (w' : World) : Prop :=
  (∃ q, w' = w.drewN q) ∧ match cutL l with
  | none => e = .returned (.tuple #[.slice a n c, .slice none 0 0, .bool false])
  | some x => ∃ a2 c2, e = .returned (.tuple #[.slice a x.1.length c, .slice a2 x.2.length c2, .bool true]) ∧ SBC w a x.1.length c x.1 ∧ SBC w a2 x.2.length c2 x.2 ∧ ∀ b o, a2 = some ⟨b, o, none⟩ → ∃ o', a = some ⟨b, o', none⟩
theorem cut_any (w : World) (a a2 : Option Addr) (n c d : Nat) (l : List Int) (h : SBC w a n c l) (h2 : SBC w a2 2 d [92, 10]) (hs : n < 4294967281) (hm : ∃ m, w.cell? ⟨1, 0, none⟩ = some (.int .i64 m)) : Calls Tryd.prog 43 #[.slice a n c, .slice a2 2 d] w (CutPost w a n c l) := by
  obtain ⟨m, hm⟩ := hm
  have hin := h.inB
  have hln := h.len
  have hn47 := h.1.len.2
  have hcall := Tryd.bytes_Cut_all a a2 n c 2 d l [92, 10] m w h.len rfl (fun x hx => by have := hin x hx; omega) (fun y hy => by have := inB_two 92 10 (by omega) y hy; omega) h.bytesIn h2.bytesIn h.2.2 h.2.1 hs (by omega) hm
  rw [index_cut l hin] at hcall
  refine hcall.mono fun e w' ⟨he, hw⟩ => ⟨hw, ?_⟩
  cases hk : cutL l with
  | none =>
    rw [hk] at he
    exact he
  | some x =>
    rw [hk] at he
    have hx := cut_len (r := x.1) (t := x.2) hk
    have hlen : n = x.1.length + 2 + x.2.length := by rw [← hln, hx]; simp; omega
    obtain ⟨b, o, rfl, hc⟩ := h.cells (by omega)
    have hcc := h.2.1
    simp only [Lib.cutV] at he
    rw [if_pos (by omega)] at he
    simp only [Int.toNat_natCast, Lib.fromV] at he
    have hr : SBC w (some ⟨b, o, none⟩) x.1.length c x.1 := SBC.mk' rfl (fun y hy => hin y (by rw [hx]; simp [hy])) (by omega) (by omega) fun i hi => by
      rw [hc i (by omega), hx, List.getElem?_append_left hi]
    by_cases hcj : c = x.1.length + 2
    · have ht : x.2 = [] := List.eq_nil_of_length_eq_zero (by omega)
      rw [if_pos hcj] at he
      refine ⟨some ⟨b, o, none⟩, c - (x.1.length + 2), ?_, hr, ?_, fun b' o' e => ?_⟩
      · rw [he, show n - (x.1.length + 2) = x.2.length by omega]
      · rw [ht]; exact SBC.nil _ _ (fun e => by cases e)
      · simp only [Option.some.injEq, Addr.mk.injEq, and_true] at e
        obtain ⟨rfl, rfl⟩ := e
        exact ⟨_, rfl⟩
    · rw [if_neg hcj] at he
      refine ⟨some ⟨b, o + (x.1.length + 2), none⟩, c - (x.1.length + 2), ?_, hr, ?_, fun b' o' e => ?_⟩
      · rw [he, show n - (x.1.length + 2) = x.2.length by omega]
        simp [Addr.add]
      · refine SBC.mk' rfl (fun y hy => hin y (by rw [hx]; simp [hy])) (by omega) (by omega) fun i hi => ?_
        rw [show o + (x.1.length + 2) + i = o + (x.1.length + 2 + i) by omega, hc _ (by omega), hx, List.getElem?_append_right (by omega), show x.1.length + 2 + i - x.1.length = i + 2 by omega]
        rfl
      · simp only [Option.some.injEq, Addr.mk.injEq, and_true] at e
        obtain ⟨rfl, -⟩ := e
        exact ⟨_, rfl⟩
end Go.Proofs.YtkiiidhfjieknaaDoor
