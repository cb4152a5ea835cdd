/-
  Plain mathematics of layer 4: how a bracket is read.
-/
import Derived.Test.YthegepiafodpjaaDoorMk
import Derived.Test.YthegepiafodpjaaDoorOf
import Derived.Test.YthegepiafodpjaaDoorNamed
namespace Go.Proofs.YthegepiafodpjaaDoor

/-- Does that sign stand at i? -/
def sgn (l : List Mk) (i : Nat) (b : Int) : Bool := decide (i < l.length) && decide (l[i]?.getD (0, false) = (b, false))
def over (l : List Mk) (i : Nat) : Bool := decide (l.length ≤ i)
def byteM (l : List Mk) (i : Nat) : Int := (l[i]?.getD (0, false)).1
/-- A thing, or a fault: its number, its place. -/
inductive TR where
  | ok (set : List Nat) (fin : Bool) (value : Int) (next : Nat)
  | bad (err : Nat) (place : Nat)
def kindM (l : List Mk) (i : Nat) : Int :=
  if sgn l i 91 = true then
    if sgn l (i + 1) 58 = true then 58 else if sgn l (i + 1) 61 = true then 61 else if sgn l (i + 1) 46 = true then 46 else 0
  else 0
/-- The string of a name's bytes. -/
def strI (l : List Int) : ByteArray := ⟨(l.map fun x => UInt8.ofNat x.toNat).toArray⟩
/-- The name that begins at i, read from k on. -/
def nameM (l : List Mk) (op i : Nat) : Nat → Nat → List Int → TR
  | 0, _, _ => .bad 32 op
  | f + 1, k, text =>
    if over l k = true then .bad 32 op
    else if (sgn l k 58 && sgn l (k + 1) 93) = true then
      if namedL (strI text) = noneL then .bad 31 i else .ok (namedL (strI text)) false 0 (k + 2)
    else nameM l op i f (k + 1) (text ++ [byteM l k])
def thingM (l : List Mk) (op i : Nat) : TR :=
  if over l i = true then .bad 32 op
  else if kindM l i = 58 then nameM l op i (l.length + 1) (i + 2) []
  else if kindM l i = 0 then .ok (ofL [byteM l i]) true (byteM l i) (i + 1)
  else if over l (i + 3) = true then .bad 32 op
  else if sgn l (i + 3) (kindM l i) = false then .bad 31 i
  else if over l (i + 4) = true then .bad 32 op
  else if sgn l (i + 4) 93 = false then .bad 31 i
  else .ok (ofL [byteM l (i + 2)]) (decide (kindM l i = 46)) (byteM l (i + 2)) (i + 5)
def itemM (l : List Mk) (op i : Nat) (first : Bool) : TR :=
  if (sgn l i 45 && !first && !over l (i + 1) && !sgn l (i + 1) 93) = true then .bad 30 i
  else match thingM l op i with
    | .bad e a => .bad e a
    | .ok set fin value next =>
      if (!sgn l next 45 || sgn l (next + 1) 93) = true then .ok set fin value next
      else if over l (next + 1) = true then .bad 32 op
      else if fin = false then .bad 30 i
      else match thingM l op (next + 1) with
        | .bad e a => .bad e a
        | .ok _ fin2 value2 next2 => if fin2 = false ∨ value2 < value then .bad 30 i else .ok (rangeL value.toNat value2.toNat) false 0 next2
/-- The items from i on, up to the bracket's end. -/
def itemsM (l : List Mk) (op first : Nat) : Nat → Nat → List Nat → TR
  | 0, _, _ => .bad 32 op
  | f + 1, i, set =>
    if (!decide (i = first) && sgn l i 93) = true then .ok set false 0 i
    else match itemM l op i (decide (i = first)) with
      | .bad e a => .bad e a
      | .ok s _ _ next => itemsM l op first f next (orL set s)
/-- Class, place, error. -/
abbrev BRes := List Nat × Int × Int
def parseB (l : List Mk) (at' : Int) : BRes :=
  if at' < 0 ∨ sgn l at'.toNat 91 = false then (noneL, 0, 1)
  else
    let op := at'.toNat
    let not := sgn l (op + 1) 94
    let first := if not then op + 2 else op + 1
    match itemsM l op first (l.length + 1) first noneL with
    | .bad e a => (noneL, (a : Int), (e : Int))
    | .ok set _ _ i => (if not then notL set else set, (i : Int) + 1, 0)

theorem sgn_lt {l : List Mk} {i : Nat} {b : Int} (h : sgn l i b = true) : i < l.length := by
  unfold sgn at h
  simp only [Bool.and_eq_true, decide_eq_true_eq] at h
  exact h.1
theorem sgn_over {l : List Mk} {i : Nat} {b : Int} (h : over l i = true) : sgn l i b = false := by
  unfold over at h
  unfold sgn
  have := of_decide_eq_true h
  rw [decide_eq_false (by omega)]
  rfl
theorem sgn_get {l : List Mk} {i : Nat} {b : Int} (h : sgn l i b = true) : l[i]?.getD (0, false) = (b, false) := by
  unfold sgn at h
  simp only [Bool.and_eq_true, decide_eq_true_eq] at h
  exact h.2
/-- What is read lies behind its beginning, and within the marks. -/
def NextIn (l : List Mk) (i : Nat) : TR → Prop
  | .bad _ _ => True
  | .ok _ _ _ next => i < next ∧ next ≤ l.length
theorem name_next (l : List Mk) (op i : Nat) : ∀ (f k : Nat) (text : List Int), i < k → NextIn l i (nameM l op i f k text)
  | 0, _, _, _ => trivial
  | f + 1, k, text, hk => by
    unfold nameM
    split
    · trivial
    · split
      · rename_i h
        rw [Bool.and_eq_true] at h
        have := sgn_lt h.2
        split
        · trivial
        · exact ⟨by omega, by omega⟩
      · exact name_next l op i f (k + 1) _ (by omega)
theorem thing_next (l : List Mk) (op i : Nat) : NextIn l i (thingM l op i) := by
  unfold thingM
  split
  · trivial
  · rename_i h0
    split
    · exact name_next l op i _ _ _ (by omega)
    · split
      · refine ⟨by omega, ?_⟩
        have : ¬ l.length ≤ i := fun h => h0 (decide_eq_true h)
        omega
      · split
        · trivial
        · split
          · trivial
          · split
            · trivial
            · rename_i h4
              have h4 : ¬ l.length ≤ i + 4 := fun h => h4 (decide_eq_true h)
              split
              · trivial
              · exact ⟨by omega, by omega⟩
theorem item_next (l : List Mk) (op i : Nat) (first : Bool) : NextIn l i (itemM l op i first) := by
  have h1 := thing_next l op i
  unfold itemM
  split
  · trivial
  · split
    · trivial
    · rename_i h
      rw [h] at h1
      split
      · exact h1
      · split
        · trivial
        · split
          · trivial
          · rename_i next _ _ _
            have h2 := thing_next l op (next + 1)
            split
            · trivial
            · rename_i h3
              rw [h3] at h2
              split
              · trivial
              · have := h1.1; have := h2.1; exact ⟨by omega, h2.2⟩
end Go.Proofs.YthegepiafodpjaaDoor
