/-
  Two spaces of the program's beside two of the document's, in arrays of pointers.
-/
import Derived.Test.YtakimaceohfpcaaDoes
import Derived.Test.YtakimaceohfpcaaStructs
namespace Go.Proofs.Ytakimaceohfpcaa
open Go.RowKit

theorem and_one (x : Int) : bits .and .i64 x 1 = 0 ∨ bits .and .i64 x 1 = 1 := by
  have h : (BitVec.ofInt 64 x &&& BitVec.ofInt 64 1).toNat ≤ 1 := by
    rw [BitVec.toNat_and]
    exact Nat.and_le_right
  have e : bits .and .i64 x 1 = IntKind.i64.wrap ((BitVec.ofInt 64 x &&& BitVec.ofInt 64 1).toNat : Nat) := rfl
  rw [e]
  rcases (by omega : (BitVec.ofInt 64 x &&& BitVec.ofInt 64 1).toNat = 0 ∨ (BitVec.ofInt 64 x &&& BitVec.ofInt 64 1).toNat = 1) with h | h
  · rw [h]; exact .inl (by decide)
  · rw [h]; exact .inr (by decide)
def ks25 : List FK := [.int .i64, .int .i64, .int .u8, .bytes]
theorem El25 {w : World} {b o : Nat} {x : El} (h : ElAt w b o ks25 x) : w.cell? ⟨b, o, none⟩ = some (.int .i64 (x.i 0)) ∧ w.cell? ⟨b, o + 1, none⟩ = some (.int .i64 (x.i 1)) ∧ w.cell? ⟨b, o + 2, none⟩ = some (.int .u8 (x.i 2)) ∧ ∃ a n c, w.cell? ⟨b, o + 3, none⟩ = some (.slice a n c) ∧ SB w (.slice a n c) (x.l 3) ∧ n ≤ c ∧ (a = none → c = 0) := by
  obtain ⟨v0, h0, e0, -⟩ := h 0 (.int .i64) rfl
  obtain ⟨v1, h1, e1, -⟩ := h 1 (.int .i64) rfl
  obtain ⟨v2, h2, e2, -⟩ := h 2 (.int .u8) rfl
  obtain ⟨v3, h3, a, n, c, e3, hs⟩ := h 3 .bytes rfl
  subst e0 e1 e2 e3
  exact ⟨h0, h1, h2, a, n, c, h3, hs⟩
def tot25 (r : List El) (k : Nat) : Nat := ((r.take k).map fun x => 1 + (x.l 3).length).sum
theorem tot25_succ (r : List El) (k : Nat) (h : k < r.length) : tot25 r (k + 1) = tot25 r k + (1 + ((r[k]?.getD El.zero).l 3).length) := by
  unfold tot25
  rw [List.take_add_one, List.getElem?_eq_getElem h, List.map_append, List.sum_append]
  rfl
theorem tot25_le (r : List El) : ∀ k, k ≤ r.length → k ≤ tot25 r k
  | 0, _ => Nat.zero_le _
  | k + 1, h => by
    have := tot25_le r k (by omega)
    rw [tot25_succ r k (by omega)]; omega
theorem tot25_mono (r : List El) : ∀ k d, k + d ≤ r.length → tot25 r k ≤ tot25 r (k + d)
  | _, 0, _ => Nat.le_refl _
  | k, d + 1, h => by
    have := tot25_mono r k d (by omega)
    rw [← Nat.add_assoc, tot25_succ r (k + d) (by omega)]; omega
theorem tot25_one (r : List El) (k : Nat) (h : k < r.length) : 1 + ((r[k]?.getD El.zero).l 3).length ≤ tot25 r r.length := by
  have h1 := tot25_succ r k h
  have h2 := tot25_mono r (k + 1) (r.length - (k + 1)) (by omega)
  rw [show k + 1 + (r.length - (k + 1)) = r.length by omega] at h2
  omega

def BeyondPost (W : World) (r : List El) (e : Ending) (W' : World) : Prop := ∃ b : Bool, e = .returned (.bool b) ∧ W = W' ∧ (b = false → tot25 r r.length ≤ 67108864)
set_option maxHeartbeats 1000000 in
theorem beyond_any (W : World) (a : Option Addr) (n c : Nat) (r : List El) (h : SS W ks25 (.slice a n c) r) : Calls Try.prog 10 #[.slice a n c] W (BeyondPost W r) := by
  obtain ⟨hl, hn, -⟩ := h.len
  subst hl
  have HS := Lib.hid h
  clear h
  go_enter Try.func10, Try.ntmps10
  go_wp2_with fail
  go_loop [3, 4] (fun x y => ∃ k t : Nat, k ≤ r.length ∧ x = .int .i64 t ∧ y = .int .i64 k ∧ t = tot25 r k ∧ t ≤ 140737555460097) (fun _ y => r.length - (intOf y).toNat)
  case atStart => exact ⟨0, 0, Nat.zero_le _, rfl, rfl, by simp [tot25], by omega⟩
  case round =>
    obtain ⟨k, t, hk, rfl, rfl, ht, htb⟩ := hrel
    have Ht := Lib.hid ht
    clear ht
    by_cases hlt : k < r.length
    · by_cases hm : t ≤ 67108864
      · obtain ⟨b, o, rfl, hc⟩ := HS.out.read k hlt
        obtain ⟨-, -, -, a3, n3, c3, h3, s3, -⟩ := El25 (hc k hlt)
        have hl3 := s3.len
        have Hs := Lib.hid (tot25_succ r k hlt)
        have Hl3 := Lib.hid hl3.1
        have hb3 := hl3.2
        have h3 : W.cell? ⟨b, o + k * 4 + 3, none⟩ = some (.slice a3 n3 c3) := h3
        clear hc s3 hl3
        go_wp2_with fail
        go_round
        case rel => exact ⟨k + 1, t + 1 + n3, by omega, by go_num, by go_num, by rw [Hs.out, Hl3.out, ← Ht.out]; omega, by omega⟩
        case measure => simp [intOf]; omega
      · have hg : decide ((67108864 : Int) < (t : Int)) = true := by rw [decide_eq_true_eq]; omega
        go_wp2_with fail
        go_ret
        exact ⟨true, by first | rfl | rw [hg], rfl, fun e => by cases e⟩
    · obtain rfl : k = r.length := by omega
      by_cases hm : t ≤ 67108864
      · have hg : decide ((67108864 : Int) < (t : Int)) = false := by rw [decide_eq_false_iff_not]; omega
        go_wp2_with fail
        go_ret
        exact ⟨false, by first | rfl | rw [hg], rfl, fun _ => by rw [← Ht.out]; exact hm⟩
      · have hg : decide ((67108864 : Int) < (t : Int)) = true := by rw [decide_eq_true_eq]; omega
        go_wp2_with fail
        go_ret
        exact ⟨true, by first | rfl | rw [hg], rfl, fun e => by cases e⟩

abbrev TArrS : TypeId := 36
abbrev TArrR : TypeId := 38
/-- Two pairs of spaces, and the arrays that lead to them. -/
structure PI (W wr : World) (bs br : Nat) (m : Bool → Int) (o q : Bool → Option Ob) (p h : Bool → List Int) : Prop where
  two : ∀ i, Two wr W.heap.size (m i) (o i) (q i) (p i) (h i)
  dj : ∀ k, F2 (o false) (q false) k → ¬ F2 (o true) (q true) k
  aS : wr.heap[bs]? = some (.cells #[ptO (o false), ptO (o true)] TArrS (0, 0))
  ar : wr.heap[br]? = some (.cells #[ptO (q false), ptO (q true)] TArrR (0, 0))
  ns : ∀ i, ¬ F2 (o i) (q i) bs ∧ ¬ F2 (o i) (q i) br
  bel : Below W.heap.size W wr
section
variable {W wr w' : World} {bs br : Nat} {m : Bool → Int} {o q : Bool → Option Ob} {p h : Bool → List Int}
theorem PI.lts (t : PI W wr bs br m o q p h) : bs < wr.heap.size ∧ br < wr.heap.size := ⟨(Array.getElem?_eq_some_iff.1 t.aS).1, (Array.getElem?_eq_some_iff.1 t.ar).1⟩
theorem PI.below (t : PI W wr bs br m o q p h) (hb : Below wr.heap.size wr w') : PI W w' bs br m o q p h :=
  { t with two := fun i => (t.two i).below hb, aS := (hb.block _ t.lts.1).trans t.aS, ar := (hb.block _ t.lts.2).trans t.ar, bel := t.bel.trans (hb.mono t.bel.size) }
def upd {α : Type} (f : Bool → α) (i : Bool) (x : α) (j : Bool) : α := if j = i then x else f j
theorem upd_same {α : Type} (f : Bool → α) (i : Bool) (x : α) : upd f i x i = x := by simp [upd]
theorem upd_other {α : Type} (f : Bool → α) (i j : Bool) (x : α) (h : j ≠ i) : upd f i x j = f j := by simp [upd, h]
theorem PI.does (t : PI W wr bs br m o q p h) (i : Bool) {e : Ending} (hd : DoesPost wr W.heap.size (m i) (o i) (q i) e w') : e = .returned (.bool true) ∧ ∃ o' q' p' h', PI W w' bs br m o' q' p' h' := by
  obtain ⟨he, o', q', p', h', e1, e2, t2, u⟩ := hd
  refine ⟨he, upd o i o', upd q i q', upd p i p', upd h i h', ?_⟩
  have hne : ∀ j, j ≠ i → ∀ k, F2 (o i) (q i) k → ¬ F2 (o j) (q j) k := fun j hj k h1 h2 => by
    cases i <;> cases j
    · exact hj rfl
    · exact t.dj k h1 h2
    · exact t.dj k h2 h1
    · exact hj rfl
  have hot : ∀ j, j ≠ i → Two w' W.heap.size (m j) (o j) (q j) (p j) (h j) ∧ ∀ k, F2 o' q' k → ¬ F2 (o j) (q j) k := fun j hj => by
    obtain ⟨h1, h2⟩ := u.apart (G := F2 (o j) (q j)) (t.two j).lt (hne j hj)
    exact ⟨(t.two j).keep h1 u.size, h2⟩
  have hp : ∀ j, ptO (upd o i o' j) = ptO (o j) := fun j => by
    by_cases hj : j = i
    · subst hj; rw [upd_same, e1]
    · rw [upd_other _ _ _ _ hj]
  have hq : ∀ j, ptO (upd q i q' j) = ptO (q j) := fun j => by
    by_cases hj : j = i
    · subst hj; rw [upd_same, e2]
    · rw [upd_other _ _ _ _ hj]
  refine ⟨fun j => ?_, ?_, ?_, ?_, fun j => ?_, u.bel _ _ t.bel (Nat.le_refl _)⟩
  · by_cases hj : j = i
    · subst hj; simp only [upd_same]; exact t2
    · simp only [upd_other _ _ _ _ hj]; exact (hot j hj).1
  · cases i with
    | false =>
      rw [upd_same, upd_same, upd_other _ _ _ _ (by decide : (true : Bool) ≠ false), upd_other _ _ _ _ (by decide : (true : Bool) ≠ false)]
      exact (hot true (by decide)).2
    | true =>
      rw [upd_same, upd_same, upd_other _ _ _ _ (by decide : (false : Bool) ≠ true), upd_other _ _ _ _ (by decide : (false : Bool) ≠ true)]
      exact fun k h1 h2 => (hot false (by decide)).2 k h2 h1
  · rw [hp, hp, u.keep bs t.lts.1 (t.ns i).1]; exact t.aS
  · rw [hq, hq, u.keep br t.lts.2 (t.ns i).2]; exact t.ar
  · by_cases hj : j = i
    · subst hj
      simp only [upd_same]
      refine ⟨fun e => ?_, fun e => ?_⟩
      · rcases u.new _ e with e | e
        · exact (t.ns j).1 e
        · have := t.lts.1; omega
      · rcases u.new _ e with e | e
        · exact (t.ns j).2 e
        · have := t.lts.2; omega
    · simp only [upd_other _ _ _ _ hj]; exact t.ns j
end
theorem Sp.lower {w : World} {g base base' : Nat} {most : Int} {pv hv : Value} {p h : List Int} (s : Sp w g base most pv hv p h) (hb : base' ≤ base) : Sp w g base' most pv hv p h :=
  { s with gb := Nat.le_trans hb s.gb, op := s.op.mono hb, oh := s.oh.mono hb }
theorem Rp.lower {w : World} {g base base' : Nat} {most : Int} {pv hv : Value} {p h : List Int} (s : Rp w g base most pv hv p h) (hb : base' ≤ base) : Rp w g base' most pv hv p h :=
  { s with gb := Nat.le_trans hb s.gb, op := s.op.mono hb, oh := s.oh.mono hb }
/-- A pair of spaces that is just made. -/
theorem two_new {w w1 w2 : World} {base g g2 : Nat} {most : Int} (hs : base ≤ w.heap.size) (h1 : Sp w1 g w.heap.size most (.slice none 0 0) (.slice none 0 0) [] []) (b1 : Below w.heap.size w w1) (h2 : Rp w2 g2 w1.heap.size most (.slice none 0 0) (.slice none 0 0) [] []) (b2 : Below w1.heap.size w1 w2) :
    Two w2 base most (some ⟨g, .slice none 0 0, .slice none 0 0⟩) (some ⟨g2, .slice none 0 0, .slice none 0 0⟩) [] [] ∧ ∀ k, F2 (some ⟨g, .slice none 0 0, .slice none 0 0⟩) (some ⟨g2, .slice none 0 0, .slice none 0 0⟩) k → w.heap.size ≤ k := by
  have hg := h1.gb
  have hg2 := h2.gb
  have hl := h1.lt
  have hz := b1.size
  have hz2 := b2.size
  refine ⟨⟨?_, ?_, rfl, fun k a b => ?_, by omega⟩, fun k hk => ?_⟩
  · exact (h1.below b2).lower hs
  · exact h2.lower (by omega)
  · rcases a with e | e | e
    · rcases b with f | f | f
      · have e : k = g := e
        have f : k = g2 := f
        omega
      · simp [Value.ownBlock] at f
      · simp [Value.ownBlock] at f
    · simp [Value.ownBlock] at e
    · simp [Value.ownBlock] at e
  · rcases hk with (e | e | e) | (e | e | e)
    · have e : k = g := e
      omega
    · simp [Value.ownBlock] at e
    · simp [Value.ownBlock] at e
    · have e : k = g2 := e
      omega
    · simp [Value.ownBlock] at e
    · simp [Value.ownBlock] at e
theorem two_none (w : World) (base : Nat) (most : Int) (p h : List Int) (hs : base ≤ w.heap.size) : Two w base most none none p h := ⟨trivial, trivial, rfl, fun _ a => a.elim, hs⟩
theorem F2_none (k : Nat) : ¬ F2 none none k := fun e => e.elim id id
section
variable {W w0 w : World} {bs br : Nat} {m : Bool → Int} {o q : Bool → Option Ob} {p h : Bool → List Int}
def ix (i : Bool) : Nat := if i = true then 1 else 0
theorem eqBytes_self (w : World) (va vb : Value) (a : List Int) (ha : SB w va a) (hb : SB w vb a) : Calls Try.prog 14 #[va, vb] w fun e w' => e = .returned (.bool true) ∧ ∃ n, w' = w.drewN n :=
  (eqBytes_any w va vb a a ha hb).mono fun _ _ ⟨e, r⟩ => ⟨by rw [e]; simp, r⟩
theorem PI.cellS {wr : World} (t : PI W wr bs br m o q p h) (i : Bool) : wr.cell? ⟨bs, ix i, none⟩ = some (ptO (o i)) := by
  rw [cell_of_row wr bs (ix i) _ _ (0, 0) t.aS]
  cases i <;> rfl
theorem PI.cellR {wr : World} (t : PI W wr bs br m o q p h) (i : Bool) : wr.cell? ⟨br, ix i, none⟩ = some (ptO (q i)) := by
  rw [cell_of_row wr br (ix i) _ _ (0, 0) t.ar]
  cases i <;> rfl
theorem RpO.ok {w : World} {base : Nat} {most : Int} {o : Option Ob} {p h : List Int} (s : SpO w base most o p h) : (IsB (readO o p) ∧ (readO o p).length ≤ 140737488351232) ∧ IsB (readO o h) ∧ (readO o h).length ≤ 140737488351232 := by
  cases o with
  | none => exact ⟨⟨isB_nil, by simp [readO]⟩, isB_nil, by simp [readO]⟩
  | some s0 =>
    have s : Sp w s0.g base most s0.pv s0.hv p h := s
    exact ⟨⟨s.bp, s.len2P⟩, s.bh, s.len2H⟩
def m01 (x0 x1 : Int) (i : Bool) : Int := if i = true then x1 else x0
theorem PI.start {w1 : World} {x0 x1 : Int} (hb : Below W.heap.size W w1) (o3 : Obj) : PI W (((w1.alloc (.cells #[.pointer none, .pointer none] TArrS)).alloc (.cells #[.pointer none, .pointer none] TArrR)).alloc o3) w1.heap.size (w1.heap.size + 1) (m01 x0 x1) (fun _ => none) (fun _ => none) (fun _ => []) (fun _ => []) := by
  have hz := hb.size
  have b0 : Below W.heap.size W (((w1.alloc (.cells #[.pointer none, .pointer none] TArrS)).alloc (.cells #[.pointer none, .pointer none] TArrR)).alloc o3) := ((hb.alloc hz _).alloc (by simp; omega) _).alloc (by simp; omega) _
  refine ⟨fun i => two_none _ _ _ _ _ b0.size, fun k e => absurd e (F2_none k), ?_, ?_, fun _ => ⟨F2_none _, F2_none _⟩, b0⟩
  · have h1 := heap_alloc_new w1 (.cells #[.pointer none, .pointer none] TArrS)
    have h2 := ((Below.refl (w1.alloc (.cells #[.pointer none, .pointer none] TArrS)).heap.size _).alloc (Nat.le_refl _) (.cells #[.pointer none, .pointer none] TArrR)).alloc (by simp) o3
    exact (h2.block w1.heap.size (by simp)).trans h1
  · have h1 := heap_alloc_new (w1.alloc (.cells #[.pointer none, .pointer none] TArrS)) (.cells #[.pointer none, .pointer none] TArrR)
    have h2 := (Below.refl ((w1.alloc (.cells #[.pointer none, .pointer none] TArrS)).alloc (.cells #[.pointer none, .pointer none] TArrR)).heap.size _).alloc (Nat.le_refl _) o3
    have e : (w1.alloc (.cells #[.pointer none, .pointer none] TArrS)).heap.size = w1.heap.size + 1 := by simp
    rw [e] at h1
    exact (h2.block (w1.heap.size + 1) (by simp)).trans h1
/-- A new pair of spaces is put into the arrays. -/
theorem PI.put (t : PI W w0 bs br m o q p h) (hne : bs ≠ br) (hB : W.heap.size ≤ bs ∧ W.heap.size ≤ br) (i : Bool) (hb : Below w0.heap.size w0 w) {o1 q1 : Option Ob} (t1 : Two w W.heap.size (m i) o1 q1 [] []) (hn : ∀ k, F2 o1 q1 k → w0.heap.size ≤ k) :
    PI W ((w.setCell ⟨bs, ix i, none⟩ (ptO o1)).setCell ⟨br, ix i, none⟩ (ptO q1)) bs br m (upd o i o1) (upd q i q1) (upd p i []) (upd h i []) := by
  have tb := t.below hb
  have hl := t.lts
  have hbl : ∀ k, k ≠ bs → k ≠ br → ((w.setCell ⟨bs, ix i, none⟩ (ptO o1)).setCell ⟨br, ix i, none⟩ (ptO q1)).heap[k]? = w.heap[k]? := fun k h1 h2 =>
    (heap_setCell_other _ ⟨br, ix i, none⟩ k _ h2).trans (heap_setCell_other _ ⟨bs, ix i, none⟩ k _ h1)
  have hsz : w.heap.size ≤ ((w.setCell ⟨bs, ix i, none⟩ (ptO o1)).setCell ⟨br, ix i, none⟩ (ptO q1)).heap.size := by simp [World.setCell]
  have k1 : Two ((w.setCell ⟨bs, ix i, none⟩ (ptO o1)).setCell ⟨br, ix i, none⟩ (ptO q1)) W.heap.size (m i) o1 q1 [] [] := t1.keep (fun k hk => hbl k (fun e => by have := hn k hk; omega) (fun e => by have := hn k hk; omega)) hsz
  have k2 : ∀ j, Two ((w.setCell ⟨bs, ix i, none⟩ (ptO o1)).setCell ⟨br, ix i, none⟩ (ptO q1)) W.heap.size (m j) (o j) (q j) (p j) (h j) := fun j => (tb.two j).keep (fun k hk => hbl k (fun e => (t.ns j).1 (by rw [← e]; exact hk)) (fun e => (t.ns j).2 (by rw [← e]; exact hk))) hsz
  have far : ∀ j k, F2 o1 q1 k → ¬ F2 (o j) (q j) k := fun j k h1 h2 => by have := hn k h1; have := (t.two j).lt k h2; omega
  refine ⟨fun j => ?_, ?_, ?_, ?_, fun j => ?_, (tb.bel.setCell hB.1 _).setCell hB.2 _⟩
  · by_cases hj : j = i
    · subst hj; simp only [upd_same]; exact k1
    · simp only [upd_other _ _ _ _ hj]; exact k2 j
  · cases i with
    | false =>
      rw [upd_same, upd_same, upd_other _ _ _ _ (by decide : (true : Bool) ≠ false), upd_other _ _ _ _ (by decide : (true : Bool) ≠ false)]
      exact far true
    | true =>
      rw [upd_same, upd_same, upd_other _ _ _ _ (by decide : (false : Bool) ≠ true), upd_other _ _ _ _ (by decide : (false : Bool) ≠ true)]
      exact fun k h1 h2 => far false k h2 h1
  · rw [heap_setCell_other _ ⟨br, ix i, none⟩ bs _ hne, heap_setCell_same w bs (ix i) _ _ _ tb.aS]
    cases i <;> rfl
  · rw [heap_setCell_same _ br (ix i) _ _ _ ((heap_setCell_other w ⟨bs, ix i, none⟩ br _ (Ne.symm hne)).trans tb.ar)]
    cases i <;> rfl
  · by_cases hj : j = i
    · subst hj
      simp only [upd_same]
      exact ⟨fun e => by have := hn _ e; omega, fun e => by have := hn _ e; omega⟩
    · simp only [upd_other _ _ _ _ hj]; exact t.ns j
end
end Go.Proofs.Ytakimaceohfpcaa
