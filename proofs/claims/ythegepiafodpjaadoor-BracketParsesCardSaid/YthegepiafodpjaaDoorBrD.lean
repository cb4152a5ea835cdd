/-
  Plain mathematics of layer 4: what BracketCut asks of Parse.
-/
import Derived.Test.YthegepiafodpjaaDoorBrC
import Derived.Test.YthegepiafodpjaaDoorBrQ
namespace Go.Proofs.YthegepiafodpjaaDoor

def fsB (l : List Mk) (op : Nat) : Nat := if sgn l (op + 1) 94 = true then op + 2 else op + 1
theorem fsB_b (l : List Mk) (op : Nat) : op + 1 ≤ fsB l op ∧ fsB l op ≤ op + 2 := by unfold fsB; split <;> omega
theorem brM_eq (l : List Mk) (op : Nat) : brM l op = match itemsM l op (fsB l op) (l.length + 1) (fsB l op) noneL with
    | .bad e p => .bad e p
    | .ok set _ _ i => .ok (if sgn l (op + 1) 94 then notL set else set) false 0 (i + 1) := rfl
theorem ag_drop (l B : List Mk) (op k : Nat) (h : op + k ≤ l.length) : Ag l op ((l.drop op).take k ++ B) k := fun j hj => by
  refine ⟨by omega, ?_, ?_⟩
  · rw [List.length_append, List.length_take, List.length_drop]; omega
  · rw [List.getElem?_append_left (by rw [List.length_take, List.length_drop]; omega), List.getElem?_take_of_lt hj, List.getElem?_drop]
theorem ag_take (l : List Mk) (k : Nat) (h : k ≤ l.length) : Ag l 0 (l.take k) k := fun j hj => by
  refine ⟨by omega, ?_, ?_⟩
  · rw [List.length_take]; omega
  · rw [Nat.zero_add, List.getElem?_take_of_lt hj]
/-- A bracket that is refused, or read. -/
def BadIs (l : List Mk) (at' : Int) : Prop := ∃ op e p : Nat, at' = (op : Int) ∧ op ≤ p ∧ p < l.length ∧ (e = 30 ∨ e = 31 ∨ e = 32) ∧ parseB l at' = (noneL, (p : Int), (e : Int))
def CutIs (l : List Mk) (op cut : Nat) : Prop :=
  parseB (l.take cut) (op : Int) = (noneL, (op : Int), 32) ∨ ∃ p : Nat, parseB (l.take cut) (op : Int) = (noneL, (p : Int), 30) ∧ op < p ∧ p + 2 < cut ∧ sgn l (cut - 1) 91 = true ∧ sgn l (cut - 2) 45 = true
structure OkIs (l : List Mk) (op en : Nat) (c : List Nat) : Prop where
  isc : IsC c
  lo : op + 3 ≤ en
  hi : en ≤ l.length
  fin : sgn l (en - 1) 93 = true
  eq : parseB l (op : Int) = (c, (en : Int), 0)
  alone : ∀ B, parseB ((l.drop op).take (en - op) ++ B) 0 = (c, ((en - op : Nat) : Int), 0)
  cut : ∀ k, op < k → k < en → CutIs l op k

theorem parse_cases (l : List Mk) (at' : Int) : parseB l at' = (noneL, 0, 1) ∨ BadIs l at' ∨ ∃ (op en : Nat) (c : List Nat), at' = (op : Int) ∧ OkIs l op en c := by
  by_cases h0 : at' < 0 ∨ sgn l at'.toNat 91 = false
  · exact .inl (parse_arg l at' h0)
  · right
    have hneg : ¬ at' < 0 := fun h => h0 (.inl h)
    obtain ⟨op, rfl⟩ : ∃ op : Nat, at' = (op : Int) := ⟨at'.toNat, by omega⟩
    have h91 : sgn l op 91 = true := by
      cases h : sgn l op 91 with
      | true => rfl
      | false => exact absurd (.inr (by simpa using h)) h0
    have hop := sgn_lt h91
    have hpb := parse_br l op h91
    have hfs := fsB_b l op
    cases hit : itemsM l op (fsB l op) (l.length + 1) (fsB l op) noneL with
    | bad e p =>
      left
      have hbr : brM l op = .bad e p := by rw [brM_eq, hit]
      have hb := items_bad l op (fsB l op) (l.length + 1) (fsB l op) noneL
      have hp := items_place l op (fsB l op) (l.length + 1) (fsB l op) noneL
      rw [hit] at hb hp
      refine ⟨op, e, p, rfl, ?_, ?_, hb, by rw [hpb, hbr]⟩
      · rcases hp with hp | hp <;> omega
      · rcases hp with hp | hp <;> omega
    | ok set fn v i =>
      right
      have he := items_end l op (fsB l op) _ _ _ _ _ _ _ hit
      have hi := sgn_lt he.1
      have hlt := he.2.2 rfl
      have hbr : brM l op = .ok (if sgn l (op + 1) 94 then notL set else set) false 0 (i + 1) := by rw [brM_eq, hit]
      have hisc := br_okC l op
      rw [hbr] at hisc
      refine ⟨op, i + 1, (if sgn l (op + 1) 94 then notL set else set), rfl, hisc, by omega, by omega, by rw [Nat.add_sub_cancel]; exact he.1, by rw [hpb, hbr], fun B => ?_, fun k hk1 hk2 => ?_⟩
      · have ha := ag_drop l B op (i + 1 - op) (by omega)
        obtain ⟨L, hL⟩ : ∃ L, (l.drop op).take (i + 1 - op) ++ B = L := ⟨_, rfl⟩
        rw [hL] at ha ⊢
        have hk : i + 1 - op ≤ L.length := by have := (ha (i - op) (by omega)).2.1; omega
        have s0 : sgn L 0 91 = true := by rw [← ha.sgn (by omega)]; exact h91
        have s1 : sgn L 1 94 = sgn l (op + 1) 94 := by rw [← ha.sgn (by omega)]
        have hpb2 := parse_br L 0 s0
        have hfs2 : op + fsB L 0 = fsB l op := by unfold fsB; rw [Nat.zero_add, s1]; split <;> omega
        rw [← hfs2] at hit
        have hS := items_same ha op 0 (fsB L 0) (l.length + 1) (L.length + 1) (fsB L 0) noneL set fn v (i - op) (by rw [hit]; congr 1; omega) (by omega) (by omega)
        have hbr2 : brM L 0 = .ok (if sgn l (op + 1) 94 then notL set else set) false 0 (i - op + 1) := by rw [brM_eq, hS, Nat.zero_add, s1]
        rw [show (0 : Int) = ((0 : Nat) : Int) from rfl, hpb2, hbr2]
        simp only
        congr 3
        omega
      · have ha := ag_take l k (by omega)
        have hl : (l.take k).length = k := by rw [List.length_take]; omega
        unfold CutIs
        obtain ⟨L, hL⟩ : ∃ L, l.take k = L := ⟨_, rfl⟩
        rw [hL] at ha hl ⊢
        have z : ∀ x b, x < k → sgn L x b = sgn l x b := fun x b hx => by have := ha.sgn hx b; rw [Nat.zero_add] at this; exact this.symm
        have s0 : sgn L op 91 = true := by rw [z op 91 hk1]; exact h91
        have hpb2 := parse_br L op s0
        by_cases h1 : op + 1 < k
        · have hfs2 : fsB L op = fsB l op := by unfold fsB; rw [z _ _ h1]
          rcases items_cut ha hl op (fsB l op) (l.length + 1) (L.length + 1) (fsB l op) noneL noneL set fn v i hit (by omega) with hR | ⟨p, hR, g1, g2, g3, g4⟩
          · left
            have : brM L op = .bad 32 op := by rw [brM_eq, hfs2, hR]
            rw [hpb2, this]
            rfl
          · right
            have : brM L op = .bad 30 p := by rw [brM_eq, hfs2, hR]
            exact ⟨p, by rw [hpb2, this]; rfl, by omega, g2, g3, g4⟩
        · left
          have hfs2 := fsB_b L op
          have : brM L op = .bad 32 op := by rw [brM_eq, items_over L op (fsB L op) _ _ _ (by omega)]
          rw [hpb2, this]
          rfl
end Go.Proofs.YthegepiafodpjaaDoor
