/-
  Plain mathematics of layer 16: pieces, what they expand to, how long that is; how marks are read as pieces, and written.
-/
import Derived.Test.YtdbkoephkdfbfaaDoorMkDef
namespace Go.Proofs.YtdbkoephkdfbfaaDoor

abbrev Pc := Int × List Int
abbrev Sp := Int × Int

/-- What a group has taken. -/
def takenL (g : Int) (text : List Int) (l : List Sp) : List Int :=
  if 0 ≤ g ∧ 0 ≤ (l[g.toNat]?.getD (-1, -1)).1 ∧ (l[g.toNat]?.getD (-1, -1)).1 ≤ (l[g.toNat]?.getD (-1, -1)).2 ∧ (l[g.toNat]?.getD (-1, -1)).2 ≤ text.length then
    (text.drop (l[g.toNat]?.getD (-1, -1)).1.toNat).take ((l[g.toNat]?.getD (-1, -1)).2 - (l[g.toNat]?.getD (-1, -1)).1).toNat else []
def pieceOf (text : List Int) (l : List Sp) (p : Pc) : List Int := if p.1 = -1 then p.2 else takenL p.1 text l
def expandL (p : List Pc) (text : List Int) (l : List Sp) : List Int := p.flatMap (pieceOf text l)
def sizeL (l : List Sp) (g : Int) : Nat :=
  if 0 ≤ g ∧ 0 ≤ (l[g.toNat]?.getD (-1, -1)).1 ∧ (l[g.toNat]?.getD (-1, -1)).1 ≤ (l[g.toNat]?.getD (-1, -1)).2 then ((l[g.toNat]?.getD (-1, -1)).2 - (l[g.toNat]?.getD (-1, -1)).1).toNat else 0
def pieceSize (l : List Sp) (p : Pc) : Nat := if p.1 = -1 then p.2.length else sizeL l p.1
def sumL (p : List Pc) (l : List Sp) : Nat := (p.map (pieceSize l)).sum

theorem taken_len (g : Int) (text : List Int) (l : List Sp) : (takenL g text l).length ≤ sizeL l g ∧ (takenL g text l).length ≤ text.length := by
  unfold takenL sizeL
  generalize (l[g.toNat]?.getD (-1, -1)) = s
  by_cases h : 0 ≤ g ∧ 0 ≤ s.1 ∧ s.1 ≤ s.2 ∧ s.2 ≤ text.length
  · rw [if_pos h, if_pos ⟨h.1, h.2.1, h.2.2.1⟩, List.length_take, List.length_drop]
    omega
  · rw [if_neg h]; simp
theorem piece_len (text : List Int) (l : List Sp) (p : Pc) : (pieceOf text l p).length ≤ pieceSize l p := by
  unfold pieceOf pieceSize
  split
  · exact Nat.le_refl _
  · exact (taken_len _ _ _).1
theorem expand_len (p : List Pc) (text : List Int) (l : List Sp) : (expandL p text l).length ≤ sumL p l := by
  unfold expandL sumL
  induction p with
  | nil => simp
  | cons x p ih =>
    rw [List.flatMap_cons, List.length_append, List.map_cons, List.sum_cons]
    have := piece_len text l x
    omega
theorem expand_append (a b : List Pc) (text : List Int) (l : List Sp) : expandL (a ++ b) text l = expandL a text l ++ expandL b text l := by
  unfold expandL; rw [List.flatMap_append]
theorem sum_append (a b : List Pc) (l : List Sp) : sumL (a ++ b) l = sumL a l + sumL b l := by
  unfold sumL; rw [List.map_append, List.sum_append]
theorem expand_one (x : Pc) (text : List Int) (l : List Sp) : expandL [x] text l = pieceOf text l x := by
  unfold expandL; simp
theorem sum_one (x : Pc) (l : List Sp) : sumL [x] l = pieceSize l x := by
  unfold sumL; simp
theorem take_snocG {α : Type} (l : List α) (d : α) (k : Nat) (h : k < l.length) : l.take (k + 1) = l.take k ++ [l[k]?.getD d] := by
  rw [List.take_succ_eq_append_getElem h]
  simp [h]
theorem drop_consG {α : Type} (l : List α) (d : α) (k : Nat) (h : k < l.length) : l.drop k = (l[k]?.getD d) :: l.drop (k + 1) := by
  rw [List.drop_eq_getElem_cons h]
  simp [h]
theorem expand_snoc (p : List Pc) (d : Pc) (k : Nat) (h : k < p.length) (text : List Int) (l : List Sp) : expandL (p.take (k + 1)) text l = expandL (p.take k) text l ++ pieceOf text l (p[k]?.getD d) := by
  rw [take_snocG p d k h, expand_append, expand_one]
theorem sum_snoc (p : List Pc) (d : Pc) (k : Nat) (h : k < p.length) (l : List Sp) : sumL (p.take (k + 1)) l = sumL (p.take k) l + pieceSize l (p[k]?.getD d) := by
  rw [take_snocG p d k h, sum_append, sum_one]
theorem sum_take_le (p : List Pc) (k : Nat) (l : List Sp) : sumL (p.take k) l ≤ sumL p l := by
  have := sum_append (p.take k) (p.drop k) l
  rw [List.take_append_drop] at this
  omega
theorem sum_drop_le (p : List Pc) (k : Nat) (l : List Sp) : sumL (p.drop k) l ≤ sumL p l := by
  have := sum_append (p.take k) (p.drop k) l
  rw [List.take_append_drop] at this
  omega

/-- A span that lies in the text, or none. -/
def goodSp (n : Nat) (s : Sp) : Bool := decide (0 ≤ s.1 ∧ s.1 ≤ s.2 ∧ s.2 ≤ n ∨ s.1 = -1 ∧ s.2 = -1)
theorem taken_right (g : Int) (text : List Int) (l : List Sp) (h : ∀ i : Nat, i < l.length → goodSp text.length (l[i]?.getD (-1, -1)) = true) : (takenL g text l).length = sizeL l g := by
  unfold takenL sizeL
  have hs : goodSp text.length (l[g.toNat]?.getD (-1, -1)) = true := by
    by_cases hi : g.toNat < l.length
    · exact h _ hi
    · rw [List.getElem?_eq_none (by omega)]; simp [goodSp]
  unfold goodSp at hs
  simp only [decide_eq_true_eq] at hs
  generalize (l[g.toNat]?.getD (-1, -1)) = s at hs ⊢
  by_cases h : 0 ≤ g ∧ 0 ≤ s.1 ∧ s.1 ≤ s.2 ∧ s.2 ≤ text.length
  · rw [if_pos h, if_pos ⟨h.1, h.2.1, h.2.2.1⟩, List.length_take, List.length_drop]
    omega
  · rw [if_neg h, if_neg (by omega)]; rfl
theorem expand_right (p : List Pc) (text : List Int) (l : List Sp) (h : ∀ i : Nat, i < l.length → goodSp text.length (l[i]?.getD (-1, -1)) = true) : (expandL p text l).length = sumL p l := by
  unfold expandL sumL
  induction p with
  | nil => rfl
  | cons x p ih =>
    rw [List.flatMap_cons, List.length_append, List.map_cons, List.sum_cons, ih]
    congr 1
    unfold pieceOf pieceSize
    split
    · rfl
    · exact taken_right _ _ _ h

/-! ### Marks as pieces -/
def flushL (out : List Pc) (text : List Int) : List Pc := if text = [] then out else out ++ [(-1, text)]
/-- What a mark behind a backslash is: a group, or a byte. -/
def isGrp (m : Mk) : Bool := !m.2 && decide (49 ≤ m.1 ∧ m.1 ≤ 57)
def escB (m : Mk) : Int := if !m.2 && m.1 == 110 then 10 else m.1
def parseR : List Mk → List Pc → List Int → Option (List Pc)
  | [], out, text => some (flushL out text)
  | [m], out, text => if m = (38, false) then some (flushL out text ++ [(0, [])]) else if m = (92, false) then none else some (flushL out (text ++ [m.1]))
  | m :: n :: r, out, text =>
    if m = (38, false) then parseR (n :: r) (flushL out text ++ [(0, [])]) []
    else if m = (92, false) then
      if isGrp n then parseR r (flushL out text ++ [(n.1 - 48, [])]) [] else parseR r out (text ++ [escB n])
    else parseR (n :: r) out (text ++ [m.1])

theorem parse_nil (out : List Pc) (text : List Int) : parseR [] out text = some (flushL out text) := by rw [parseR]
theorem parse_amp (r : List Mk) (out : List Pc) (text : List Int) : parseR ((38, false) :: r) out text = parseR r (flushL out text ++ [(0, [])]) [] := by
  cases r with
  | nil => rw [parseR, parseR]; simp [flushL]
  | cons n r => rw [parseR]; simp
theorem parse_end (out : List Pc) (text : List Int) : parseR [(92, false)] out text = none := by rw [parseR]; simp
theorem parse_grp (n : Mk) (r : List Mk) (out : List Pc) (text : List Int) (h : isGrp n = true) : parseR ((92, false) :: n :: r) out text = parseR r (flushL out text ++ [(n.1 - 48, [])]) [] := by
  rw [parseR]; simp [h]
theorem parse_esc (n : Mk) (r : List Mk) (out : List Pc) (text : List Int) (h : isGrp n = false) : parseR ((92, false) :: n :: r) out text = parseR r out (text ++ [escB n]) := by
  rw [parseR]; simp [h]
theorem parse_byte (m : Mk) (r : List Mk) (out : List Pc) (text : List Int) (h1 : m ≠ (38, false)) (h2 : m ≠ (92, false)) : parseR (m :: r) out text = parseR r out (text ++ [m.1]) := by
  cases r with
  | nil => rw [parseR, parseR]; simp [h1, h2]
  | cons n r => rw [parseR]; simp [h1, h2]
end Go.Proofs.YtdbkoephkdfbfaaDoor
