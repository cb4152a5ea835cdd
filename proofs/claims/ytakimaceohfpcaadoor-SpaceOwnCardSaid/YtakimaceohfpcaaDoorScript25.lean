/-
  A script of calls at a space.
-/
import Derived.Test.YtakimaceohfpcaaDoorDoes
import Derived.Test.YtakimaceohfpcaaDoorStructs
namespace Go.Proofs.YtakimaceohfpcaaDoor
open Go.RowKit

theorem and_one (x : Int) : bits .and .i64 x 1 = 0 ∨ bits .and .i64 x 1 = 1 := by
  have h : (BitVec.ofInt 64 x &&& BitVec.ofInt 64 1).toNat ≤ 1 := by
    rw [BitVec.toNat_and]
    exact Nat.and_le_right
  have e : bits .and .i64 x 1 = IntKind.i64.wrap ((BitVec.ofInt 64 x &&& BitVec.ofInt 64 1).toNat : Nat) := rfl
  rw [e]
  rcases (by omega : (BitVec.ofInt 64 x &&& BitVec.ofInt 64 1).toNat = 0 ∨ (BitVec.ofInt 64 x &&& BitVec.ofInt 64 1).toNat = 1) with h | h
  · rw [h]; exact .inl (by decide)
  · rw [h]; exact .inr (by decide)
def ks25 : List FK := [.int .i64, .int .i64, .int .u8, .bytes]
theorem El25 {w : World} {b o : Nat} {x : El} (h : ElAt w b o ks25 x) : w.cell? ⟨b, o, none⟩ = some (.int .i64 (x.i 0)) ∧ w.cell? ⟨b, o + 1, none⟩ = some (.int .i64 (x.i 1)) ∧ w.cell? ⟨b, o + 2, none⟩ = some (.int .u8 (x.i 2)) ∧ ∃ a n c, w.cell? ⟨b, o + 3, none⟩ = some (.slice a n c) ∧ SB w (.slice a n c) (x.l 3) ∧ n ≤ c ∧ (a = none → c = 0) := by
  obtain ⟨v0, h0, e0, -⟩ := h 0 (.int .i64) rfl
  obtain ⟨v1, h1, e1, -⟩ := h 1 (.int .i64) rfl
  obtain ⟨v2, h2, e2, -⟩ := h 2 (.int .u8) rfl
  obtain ⟨v3, h3, a, n, c, e3, hs⟩ := h 3 .bytes rfl
  subst e0 e1 e2 e3
  exact ⟨h0, h1, h2, a, n, c, h3, hs⟩
def tot25 (r : List El) (k : Nat) : Nat := ((r.take k).map fun x => 1 + (x.l 3).length).sum
theorem tot25_succ (r : List El) (k : Nat) (h : k < r.length) : tot25 r (k + 1) = tot25 r k + (1 + ((r[k]?.getD El.zero).l 3).length) := by
  unfold tot25
  rw [List.take_add_one, List.getElem?_eq_getElem h, List.map_append, List.sum_append]
  rfl
theorem tot25_le (r : List El) : ∀ k, k ≤ r.length → k ≤ tot25 r k
  | 0, _ => Nat.zero_le _
  | k + 1, h => by
    have := tot25_le r k (by omega)
    rw [tot25_succ r k (by omega)]; omega
theorem tot25_mono (r : List El) : ∀ k d, k + d ≤ r.length → tot25 r k ≤ tot25 r (k + d)
  | _, 0, _ => Nat.le_refl _
  | k, d + 1, h => by
    have := tot25_mono r k d (by omega)
    rw [← Nat.add_assoc, tot25_succ r (k + d) (by omega)]; omega
theorem tot25_one (r : List El) (k : Nat) (h : k < r.length) : 1 + ((r[k]?.getD El.zero).l 3).length ≤ tot25 r r.length := by
  have h1 := tot25_succ r k h
  have h2 := tot25_mono r (k + 1) (r.length - (k + 1)) (by omega)
  rw [show k + 1 + (r.length - (k + 1)) = r.length by omega] at h2
  omega

def BeyondPost (W : World) (r : List El) (e : Ending) (W' : World) : Prop := ∃ b : Bool, e = .returned (.bool b) ∧ W = W' ∧ (b = false → tot25 r r.length ≤ 67108864)
set_option maxHeartbeats 1000000 in
theorem beyond_any (W : World) (a : Option Addr) (n c : Nat) (r : List El) (h : SS W ks25 (.slice a n c) r) : Calls Tryd.prog 65 #[.slice a n c] W (BeyondPost W r) := by
  obtain ⟨hl, hn, -⟩ := h.len
  subst hl
  have HS := Lib.hid h
  clear h
  go_enter Tryd.func65, Tryd.ntmps65
  go_wp2_with fail
  go_loop [3, 4] (fun x y => ∃ k t : Nat, k ≤ r.length ∧ x = .int .i64 t ∧ y = .int .i64 k ∧ t = tot25 r k ∧ t ≤ 140737555460097) (fun _ y => r.length - (intOf y).toNat)
  case atStart => exact ⟨0, 0, Nat.zero_le _, rfl, rfl, by simp [tot25], by omega⟩
  case round =>
    obtain ⟨k, t, hk, rfl, rfl, ht, htb⟩ := hrel
    have Ht := Lib.hid ht
    clear ht
    by_cases hlt : k < r.length
    · by_cases hm : t ≤ 67108864
      · obtain ⟨b, o, rfl, hc⟩ := HS.out.read k hlt
        obtain ⟨-, -, -, a3, n3, c3, h3, s3, -⟩ := El25 (hc k hlt)
        have hl3 := s3.len
        have Hs := Lib.hid (tot25_succ r k hlt)
        have Hl3 := Lib.hid hl3.1
        have hb3 := hl3.2
        have h3 : W.cell? ⟨b, o + k * 4 + 3, none⟩ = some (.slice a3 n3 c3) := h3
        clear hc s3 hl3
        go_wp2_with fail
        go_round
        case rel => exact ⟨k + 1, t + 1 + n3, by omega, by go_num, by go_num, by rw [Hs.out, Hl3.out, ← Ht.out]; omega, by omega⟩
        case measure => simp [intOf]; omega
      · have hg : decide ((67108864 : Int) < (t : Int)) = true := by rw [decide_eq_true_eq]; omega
        go_wp2_with fail
        go_ret
        exact ⟨true, by first | rfl | rw [hg], rfl, fun e => by cases e⟩
    · obtain rfl : k = r.length := by omega
      by_cases hm : t ≤ 67108864
      · have hg : decide ((67108864 : Int) < (t : Int)) = false := by rw [decide_eq_false_iff_not]; omega
        go_wp2_with fail
        go_ret
        exact ⟨false, by first | rfl | rw [hg], rfl, fun _ => by rw [← Ht.out]; exact hm⟩
      · have hg : decide ((67108864 : Int) < (t : Int)) = true := by rw [decide_eq_true_eq]; omega
        go_wp2_with fail
        go_ret
        exact ⟨true, by first | rfl | rw [hg], rfl, fun e => by cases e⟩

theorem Sp.lower {w : World} {g base base' : Nat} {most : Int} {pv hv : Value} {p h : List Int} (s : Sp w g base most pv hv p h) (hb : base' ≤ base) : Sp w g base' most pv hv p h :=
  { s with gb := Nat.le_trans hb s.gb, op := s.op.mono hb, oh := s.oh.mono hb }
theorem Rp.lower {w : World} {g base base' : Nat} {most : Int} {pv hv : Value} {p h : List Int} (s : Rp w g base most pv hv p h) (hb : base' ≤ base) : Rp w g base' most pv hv p h :=
  { s with gb := Nat.le_trans hb s.gb, op := s.op.mono hb, oh := s.oh.mono hb }
/-- A pair of spaces that is just made. -/
theorem two_new {w w1 w2 : World} {base g g2 : Nat} {most : Int} (hs : base ≤ w.heap.size) (h1 : Sp w1 g w.heap.size most (.slice none 0 0) (.slice none 0 0) [] []) (b1 : Below w.heap.size w w1) (h2 : Rp w2 g2 w1.heap.size most (.slice none 0 0) (.slice none 0 0) [] []) (b2 : Below w1.heap.size w1 w2) :
    Two w2 base most (some ⟨g, .slice none 0 0, .slice none 0 0⟩) (some ⟨g2, .slice none 0 0, .slice none 0 0⟩) [] [] ∧ ∀ k, F2 (some ⟨g, .slice none 0 0, .slice none 0 0⟩) (some ⟨g2, .slice none 0 0, .slice none 0 0⟩) k → w.heap.size ≤ k := by
  have hg := h1.gb
  have hg2 := h2.gb
  have hl := h1.lt
  have hz := b1.size
  have hz2 := b2.size
  refine ⟨⟨?_, ?_, rfl, fun k a b => ?_, by omega⟩, fun k hk => ?_⟩
  · exact (h1.below b2).lower hs
  · exact h2.lower (by omega)
  · rcases a with e | e | e
    · rcases b with f | f | f
      · have e : k = g := e
        have f : k = g2 := f
        omega
      · simp [Value.ownBlock] at f
      · simp [Value.ownBlock] at f
    · simp [Value.ownBlock] at e
    · simp [Value.ownBlock] at e
  · rcases hk with (e | e | e) | (e | e | e)
    · have e : k = g := e
      omega
    · simp [Value.ownBlock] at e
    · simp [Value.ownBlock] at e
    · have e : k = g2 := e
      omega
    · simp [Value.ownBlock] at e
    · simp [Value.ownBlock] at e
theorem eqBytes_self (w : World) (va vb : Value) (a : List Int) (ha : SB w va a) (hb : SB w vb a) : Calls Tryd.prog 35 #[va, vb] w fun e w' => e = .returned (.bool true) ∧ ∃ n, w' = w.drewN n :=
  (eqBytes_any w va vb a a ha hb).mono fun _ _ ⟨e, r⟩ => ⟨by rw [e]; simp, r⟩
theorem RpO.ok {w : World} {base : Nat} {most : Int} {o : Option Ob} {p h : List Int} (s : SpO w base most o p h) : (IsB (readO o p) ∧ (readO o p).length ≤ 140737488351232) ∧ IsB (readO o h) ∧ (readO o h).length ≤ 140737488351232 := by
  cases o with
  | none => exact ⟨⟨isB_nil, by simp [readO]⟩, isB_nil, by simp [readO]⟩
  | some s0 =>
    have s : Sp w s0.g base most s0.pv s0.hv p h := s
    exact ⟨⟨s.bp, s.len2P⟩, s.bh, s.len2H⟩
end Go.Proofs.YtakimaceohfpcaaDoor
