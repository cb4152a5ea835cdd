/-
  fold.kind, fold.piece: which piece a byte has, by the table of letters.
-/
import Derived.Test.YtkiiidhfjieknaaDoorFoldM
import Derived.Test.YtkiiidhfjieknaaDoorBytes
import Derived.Laws.OwnMore
namespace Go.Proofs.YtkiiidhfjieknaaDoor
open Go.RowKit

/-- The table of letters: bytes and letters. -/
def letB (k : Nat) : Int := match k with | 0 => 92 | 1 => 7 | 2 => 8 | 3 => 9 | 4 => 10 | 5 => 11 | 6 => 12 | 7 => 13 | _ => 0
def letC (k : Nat) : Int := match k with | 0 => 92 | 1 => 97 | 2 => 98 | 3 => 116 | 4 => 110 | 5 => 118 | 6 => 102 | 7 => 114 | _ => 0
def letRow : Array Value := #[.int .u8 92, .int .u8 92, .int .u8 7, .int .u8 97, .int .u8 8, .int .u8 98, .int .u8 9, .int .u8 116, .int .u8 10, .int .u8 110, .int .u8 11, .int .u8 118, .int .u8 12, .int .u8 102, .int .u8 13, .int .u8 114]
/-- The table of letters lies in memory. -/
structure LetW (w : World) : Prop where
  c : ∀ i : Nat, i < 16 → w.cell? ⟨0, i, none⟩ = letRow[i]?
theorem LetW.cell {w : World} (h : LetW w) (i : Nat) (x : Int) (hi : i < 16) (hx : letRow[i]? = some (.int .u8 x)) : w.cell? ⟨0, i, none⟩ = some (.int .u8 x) := (h.c i hi).trans hx
theorem LetW.lt {w : World} (h : LetW w) : 0 < w.heap.size := World.block_lt_of_cell? w _ (h.cell 0 92 (by omega) rfl)
theorem LetW.below {w w' : World} (h : LetW w) {B : Nat} (hb : Below B w w') (hB : w.heap.size ≤ B) : LetW w' :=
  ⟨fun i hi => by rw [hb.cell (p := ⟨0, i, none⟩) (Nat.lt_of_lt_of_le h.lt hB)]; exact h.c i hi⟩
theorem index_let (w : World) (k : Nat) (hk : k < 8) : (Instr.index 120 (.agg #[.int .u8 92, .int .u8 92, .int .u8 7, .int .u8 97, .int .u8 8, .int .u8 98, .int .u8 9, .int .u8 116, .int .u8 10, .int .u8 110, .int .u8 11, .int .u8 118, .int .u8 12, .int .u8 102, .int .u8 13, .int .u8 114]) (.int .i64 (k : Int))).run Tryd.prog w = .ok (.agg #[.int .u8 (letB k), .int .u8 (letC k)]) w := by
  have h : k = 0 ∨ k = 1 ∨ k = 2 ∨ k = 3 ∨ k = 4 ∨ k = 5 ∨ k = 6 ∨ k = 7 := by omega
  rcases h with rfl | rfl | rfl | rfl | rfl | rfl | rfl | rfl
  all_goals (show Sem.run _ _ _ = _; kernel_rfl)
theorem letB_ok (k : Nat) (hk : k < 8) : 0 ≤ letB k ∧ letB k ≤ 255 ∧ 0 ≤ letC k ∧ letC k ≤ 255 ∧ isLet (letB k) = true ∧ letL (letB k) = letC k ∧ isLtr (letC k) = true ∧ ltrOf (letC k) = letB k := by
  match k, hk with
  | 0, _ => decide
  | 1, _ => decide
  | 2, _ => decide
  | 3, _ => decide
  | 4, _ => decide
  | 5, _ => decide
  | 6, _ => decide
  | 7, _ => decide
  | n + 8, h => omega
theorem notLet (b : Int) (h : ∀ j : Nat, j < 8 → letB j ≠ b) : isLet b = false := by
  have h0 := h 0 (by omega); have h1 := h 1 (by omega); have h2 := h 2 (by omega); have h3 := h 3 (by omega)
  have h4 := h 4 (by omega); have h5 := h 5 (by omega); have h6 := h 6 (by omega); have h7 := h 7 (by omega)
  simp only [letB] at h0 h1 h2 h3 h4 h5 h6 h7
  unfold isLet
  exact decide_eq_false (by omega)

/-- What kind answers. -/
def kindN (b : Int) : Int := if isLet b then 0 else if 32 ≤ b ∧ b ≤ 126 then 1 else 2
def kindC (b : Int) : Int := if isLet b then letL b else 0
def KindPost (w : World) (b : Int) (e : Ending) (w' : World) : Prop := e = .returned (.tuple #[.int .i64 (kindN b), .int .u8 (kindC b)]) ∧ Below w.heap.size w w'

theorem kind_ret {w w' : World} {b n c : Int} (hn : n = kindN b) (hc : c = kindC b) (hb : Below w.heap.size w w') : KindPost w b (.returned (.tuple #[.int .i64 n, .int .u8 c])) w' := by
  subst hn hc; exact ⟨rfl, hb⟩
theorem kind_let {b : Int} (h : isLet b = true) : kindN b = 0 ∧ kindC b = letL b := by unfold kindN kindC; rw [h]; exact ⟨rfl, rfl⟩
theorem kind_its {b : Int} (h : isLet b = false) (h1 : 32 ≤ b) (h2 : b ≤ 126) : kindN b = 1 ∧ kindC b = 0 := by
  unfold kindN kindC; rw [h, if_neg (by simp), if_pos ⟨h1, h2⟩]; exact ⟨rfl, rfl⟩
theorem kind_num {b : Int} (h : isLet b = false) (h1 : ¬ (32 ≤ b ∧ b ≤ 126)) : kindN b = 2 ∧ kindC b = 0 := by
  unfold kindN kindC; rw [h, if_neg (by simp), if_neg h1]; exact ⟨rfl, rfl⟩

set_option maxHeartbeats 1000000 in
theorem kind_any (w : World) (b : Int) (h0 : 0 ≤ b) (h1 : b ≤ 255) (hL : LetW w) : Calls Tryd.prog 46 #[.int .u8 b] w (KindPost w b) := by
  have c0 := hL.cell 0 92 (by omega) rfl
  have c1 := hL.cell 1 92 (by omega) rfl
  have c2 := hL.cell 2 7 (by omega) rfl
  have c3 := hL.cell 3 97 (by omega) rfl
  have c4 := hL.cell 4 8 (by omega) rfl
  have c5 := hL.cell 5 98 (by omega) rfl
  have c6 := hL.cell 6 9 (by omega) rfl
  have c7 := hL.cell 7 116 (by omega) rfl
  have c8 := hL.cell 8 10 (by omega) rfl
  have c9 := hL.cell 9 110 (by omega) rfl
  have c10 := hL.cell 10 11 (by omega) rfl
  have c11 := hL.cell 11 118 (by omega) rfl
  have c12 := hL.cell 12 12 (by omega) rfl
  have c13 := hL.cell 13 102 (by omega) rfl
  have c14 := hL.cell 14 13 (by omega) rfl
  have c15 := hL.cell 15 114 (by omega) rfl
  clear hL
  go_enter Tryd.func46, Tryd.ntmps46
  go_wp2_with fail
  go_loopw [7] (fun i wr => ∃ k : Nat, k ≤ 8 ∧ i = .int .i64 k ∧ (∀ j : Nat, j < k → letB j ≠ b) ∧ Below w.heap.size w wr) (fun i _ => 8 - (intOf i).toNat)
  case atStart => exact ⟨0, by omega, rfl, fun j hj => by omega, Below.refl _ _⟩
  case round =>
    clear c0 c1 c2 c3 c4 c5 c6 c7 c8 c9 c10 c11 c12 c13 c14 c15
    obtain ⟨k, hk, rfl, hn, rb⟩ := hrel
    have HN := Lib.hid hn
    have hbs := rb.size
    clear hn
    by_cases hlt : k < 8
    · have hix := fun W => index_let W k hlt
      have HB := Lib.hid (letB_ok k hlt)
      generalize hy : letB k = y at hix HB
      generalize hz : letC k = z at hix HB
      have HY := Lib.hid hy
      clear hy hz
      obtain ⟨y0, y1, z0, z1, -⟩ := HB.out
      by_cases he : y = b
      · have he2 : (y == b) = true := by simp [he]
        have HE := Lib.hid he
        clear he
        go_wp2_with fail
        go_quiet (fail)
        go_wp2_with fail
        go_ret2
        have hkl := kind_let (b := b) (by rw [← HE.out]; exact HB.out.2.2.2.2.1)
        exact kind_ret (n := 0) (c := z) hkl.1.symm (by rw [hkl.2, ← HE.out]; exact HB.out.2.2.2.2.2.1.symm) (below_drewN (rb.alloc hbs _) _)
      · have he2 : (y == b) = false := by simp [he]
        have HE := Lib.hid he
        clear he
        go_wp2_with fail
        go_roundw
        case rel => exact ⟨k + 1, by omega, by go_num, fun j hj => by
          by_cases e : j = k
          · subst e; rw [HY.out]; exact HE.out
          · exact HN.out j (by omega), rb.alloc hbs _⟩
        case measure => simp [intOf]; omega
    · obtain rfl : k = 8 := by omega
      have HF := Lib.hid (notLet b HN.out)
      by_cases hl : 32 ≤ b
      · by_cases hh : b ≤ 126
        · go_wp2_with fail
          go_ret2
          have hkl := kind_its HF.out hl hh
          exact kind_ret (n := 1) (c := 0) hkl.1.symm hkl.2.symm rb
        · go_wp2_with fail
          go_ret2
          have hkl := kind_num HF.out (by omega)
          exact kind_ret (n := 2) (c := 0) hkl.1.symm hkl.2.symm rb
      · go_wp2_with fail
        go_ret2
        have hkl := kind_num HF.out (by omega)
        exact kind_ret (n := 2) (c := 0) hkl.1.symm hkl.2.symm rb

theorem own_lit (w w0 : World) (l : List Int) (n : Nat) (hn : l.length = n) (hl : n ≤ 100) (hb : w0.heap.size ≤ w.heap.size) : OwnB (w.alloc (.cells (row l) 5)) w0.heap.size (.slice (some ⟨w.heap.size, 0, none⟩) n n) l := by
  subst hn
  have h := World.ownsRow_lit (base := w0.heap.size) (e := 5) (size := 1) w (row l) l.length hb (by unfold maxLen; omega) (by simp [row])
  unfold OwnB
  have e : (row l).toList = l.map (Value.int .u8) := by simp [row]
  rw [e] at h
  exact h
theorem twin_ret {w w' : World} {v : Value} {p l : List Int} (hp : p = l) (ho : OwnB w' w.heap.size v l) (hb : Below w.heap.size w w') : TwinPost w p (.returned v) w' := by
  subst hp; exact ⟨_, rfl, ho, hb⟩
theorem and7 (x : Int) (h0 : 0 ≤ x) (h1 : x ≤ 255) : bits .and .u8 x 7 = x % 8 := by
  have : ∀ n : Fin 256, bits .and .u8 (n.1 : Int) 7 = (n.1 : Int) % 8 := by decide +kernel
  have h := this ⟨x.toNat, by omega⟩
  simp only [Int.toNat_of_nonneg h0] at h
  exact h

set_option maxHeartbeats 1000000 in
theorem piece_any (w : World) (b : Int) (h0 : 0 ≤ b) (h1 : b ≤ 255) (hL : LetW w) : Calls Tryd.prog 21 #[.int .u8 b] w (TwinPost w (pieceL b)) := by
  have HK := Lib.hid (kind_any w b h0 h1 hL)
  clear hL
  go_enter Tryd.func21, Tryd.ntmps21
  go_wp2_with fail
  refine HK.out.mono ?_
  rintro e w1 ⟨rfl, hb1⟩
  clear HK
  have hbs := hb1.size
  by_cases hl : isLet b = true
  · have hp : pieceL b = [92, letL b] := by unfold pieceL; rw [if_pos hl]
    have hk : kindN b = 0 := by unfold kindN; rw [if_pos hl]
    have hc : kindC b = letL b := by unfold kindC; rw [if_pos hl]
    have HP := Lib.hid hp
    rw [hk, hc]
    clear hp hk hc hl
    go_wp2_with fail
    go_ret
    exact twin_ret HP.out (own_lit w1 w [92, letL b] 2 rfl (by omega) hbs) (hb1.alloc hbs _)
  · have hl2 : isLet b = false := by simpa using hl
    by_cases hi : 32 ≤ b ∧ b ≤ 126
    · have hp : pieceL b = [b] := by unfold pieceL; rw [if_neg hl, if_pos hi]
      have hk : kindN b = 1 := by unfold kindN; rw [if_neg hl, if_pos hi]
      have HP := Lib.hid hp
      rw [hk]
      clear hp hk hl hl2 hi
      go_wp2_with fail
      go_ret
      exact twin_ret HP.out (own_lit w1 w [b] 1 rfl (by omega) hbs) (hb1.alloc hbs _)
    · have hp : pieceL b = [92, 48 + b / 64, 48 + b / 8 % 8, 48 + b % 8] := by unfold pieceL; rw [if_neg hl, if_neg hi]
      have hk : kindN b = 2 := by unfold kindN; rw [if_neg hl, if_neg hi]
      have a1 := and7 (b / 8) (by omega) (by omega)
      have a2 := and7 b h0 h1
      have HP := Lib.hid hp
      rw [hk]
      clear hp hk hl hl2 hi
      go_wp2_with fail
      go_ret
      exact twin_ret HP.out (own_lit w1 w [92, 48 + b / 64, 48 + b / 8 % 8, 48 + b % 8] 4 rfl (by omega) hbs) (hb1.alloc hbs _)
end Go.Proofs.YtkiiidhfjieknaaDoor
