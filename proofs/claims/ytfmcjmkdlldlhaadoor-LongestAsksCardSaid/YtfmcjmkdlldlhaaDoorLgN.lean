/-
  Lists of instructions as they are read; which machines are well shaped.
-/
import Derived.Test.YtfmcjmkdlldlhaaDoorLgX
namespace Go.Proofs.YtfmcjmkdlldlhaaDoor
open Go.RowKit

/-- The slice reads as these instructions. -/
def MI (W : World) (a : Option Addr) (n c : Nat) (M : List Ins) : Prop :=
  (∀ x ∈ M, IsC x.set) ∧ M.length = n ∧ n ≤ c ∧ (a = none → c = 0) ∧ (M = [] ∨ ∃ b off, a = some ⟨b, off, none⟩ ∧ ∀ i x, M[i]? = some x → ∀ q, q < 7 → W.cell? ⟨b, off + i * 7 + q, none⟩ = (encI x)[q]?)
theorem MI.below {W W' : World} {a : Option Addr} {n c : Nat} {M : List Ins} (h : MI W a n c M) (hb : Below W.heap.size W W') : MI W' a n c M := by
  obtain ⟨h1, h2, h3, h4, h5⟩ := h
  refine ⟨h1, h2, h3, h4, h5.imp_right ?_⟩
  rintro ⟨b, off, ha, hc⟩
  refine ⟨b, off, ha, fun i x hx q hq => ?_⟩
  have h := hc i x hx q hq
  rw [List.getElem?_eq_getElem (by exact hq)] at h ⊢
  rw [hb.cell (World.block_lt_of_cell? W _ h)]
  exact h
theorem MI.own {W : World} {base : Nat} {a : Option Addr} {n c : Nat} {M : List Ins} (hC : ∀ x ∈ M, IsC x.set) (h : W.ownsRow base TI 7 (.slice a n c) M.length (cellsI M)) : MI W a n c M := by
  obtain rfl := own_len h
  have hsh : M.length ≤ c ∧ (a = none → c = 0) := by
    rcases h.2 with ⟨h1, h0⟩ | ⟨g, cap, cur, h1, _, _, h2, _⟩
    · simp only [Value.slice.injEq] at h1
      exact ⟨by omega, fun _ => h1.2.2⟩
    · simp only [Value.slice.injEq] at h1
      exact ⟨by omega, fun e => by rw [h1.1] at e; cases e⟩
  refine ⟨hC, rfl, hsh.1, hsh.2, ?_⟩
  by_cases hM : M = []
  · exact .inl hM
  · right
    obtain ⟨g, c', hv⟩ := own_some h (List.length_pos_iff.2 hM)
    simp only [Value.slice.injEq] at hv
    obtain ⟨rfl, _, rfl⟩ := hv
    refine ⟨g, 0, rfl, fun i x hx q hq => ?_⟩
    have hi := (List.getElem?_eq_some_iff.1 hx).1
    rw [Nat.zero_add, (own_cell h (i * 7 + q) (by rw [cellsI_len]; omega)).1, cellsI_get hq hx]
/-- An instruction that is read. -/
theorem MI.instr {W : World} {a : Option Addr} {n c : Nat} {M : List Ins} (h : MI W a n c M) {i : Nat} {x : Ins} (hx : M[i]? = some x) {p0 p1 p2 p3 : Nat} (hp : x.set = [p0, p1, p2, p3]) :
    ∃ b off, a = some ⟨b, off, none⟩ ∧ W.cell? ⟨b, off + i * 7, none⟩ = some (.int .i8 x.op) ∧ W.cell? ⟨b, off + i * 7 + 1, none⟩ = some (.int .u64 (p0 : Int)) ∧ W.cell? ⟨b, off + i * 7 + 2, none⟩ = some (.int .u64 (p1 : Int)) ∧ W.cell? ⟨b, off + i * 7 + 3, none⟩ = some (.int .u64 (p2 : Int)) ∧ W.cell? ⟨b, off + i * 7 + 4, none⟩ = some (.int .u64 (p3 : Int)) ∧ W.cell? ⟨b, off + i * 7 + 5, none⟩ = some (.int .i64 x.x) ∧ W.cell? ⟨b, off + i * 7 + 6, none⟩ = some (.int .i64 x.y) := by
  obtain ⟨_, _, _, _, h5⟩ := h
  rcases h5 with rfl | ⟨b, off, rfl, hc⟩
  · simp at hx
  · have he : encI x = [.int .i8 x.op, .int .u64 (p0 : Int), .int .u64 (p1 : Int), .int .u64 (p2 : Int), .int .u64 (p3 : Int), .int .i64 x.x, .int .i64 x.y] := by
      unfold encI
      rw [hp]
      rfl
    have h := hc i x hx
    rw [he] at h
    exact ⟨b, off, rfl, h 0 (by omega), h 1 (by omega), h 2 (by omega), h 3 (by omega), h 4 (by omega), h 5 (by omega), h 6 (by omega)⟩

/-! ### Well shaped -/
/-- Is the instruction number i of n well shaped? -/
def insOk (n i : Nat) (a : Ins) : Bool :=
  if a.op = 1 then decide (i + 1 ≠ n) && decide (a.x = 0) && decide (a.y = 0)
  else if a.op = 2 ∨ a.op = 3 then decide (i + 1 ≠ n) && decide (a.set = noneL) && decide (a.x = 0) && decide (a.y = 0)
  else if a.op = 4 then decide (0 ≤ a.x) && decide (a.x < n) && decide (a.set = noneL) && decide (a.y = 0)
  else if a.op = 5 then decide (0 ≤ a.x) && decide (a.x < n) && decide (0 ≤ a.y) && decide (a.y < n) && decide (a.set = noneL)
  else decide (a.op = 6) && decide (a.set = noneL) && decide (a.x = 0) && decide (a.y = 0)
def allOk (n : Nat) : Nat → List Ins → Bool
  | _, [] => true
  | i, a :: l => insOk n i a && allOk n (i + 1) l
def shapedM (M : List Ins) : Bool := decide (1 ≤ M.length) && decide (M.length ≤ 65540) && allOk M.length 0 M
theorem allOk_at {n : Nat} {l : List Ins} {i : Nat} (h : allOk n i l = true) {k : Nat} {a : Ins} (hk : l[k]? = some a) : insOk n (i + k) a = true := by
  induction l generalizing i k with
  | nil => simp at hk
  | cons b l ih =>
    simp only [allOk, Bool.and_eq_true] at h
    cases k with
    | zero =>
      simp only [List.getElem?_cons_zero, Option.some.injEq] at hk
      subst hk
      exact h.1
    | succ k =>
      have := ih h.2 (k := k) (by simpa using hk)
      rwa [show i + 1 + k = i + (k + 1) by omega] at this
theorem allOk_take {n : Nat} (l : List Ins) (k : Nat) (a : Ins) (hk : l[k]? = some a) : allOk n 0 (l.take (k + 1)) = (allOk n 0 (l.take k) && insOk n k a) := by
  have h : ∀ (l : List Ins) (i k : Nat), l[k]? = some a → allOk n i (l.take (k + 1)) = (allOk n i (l.take k) && insOk n (i + k) a) := by
    intro l
    induction l with
    | nil => intro i k h; simp at h
    | cons b l ih =>
      intro i k h
      cases k with
      | zero =>
        simp only [List.getElem?_cons_zero, Option.some.injEq] at h
        subst h
        simp [allOk]
      | succ k =>
        rw [List.take_succ_cons, allOk, ih (i + 1) k (by simpa using h), List.take_succ_cons, allOk, Bool.and_assoc, show i + 1 + k = i + (k + 1) by omega]
  have := h l 0 k hk
  rwa [Nat.zero_add] at this
structure Shp (M : List Ins) : Prop where
  good : Good M
  len : M.length ≤ 65540
  xs : ∀ x ∈ M, (x.op = 4 ∨ x.op = 5 → 0 ≤ x.x) ∧ (x.op = 5 → 0 ≤ x.y)
theorem shp_of (M : List Ins) (h : shapedM M = true) : Shp M := by
  simp only [shapedM, Bool.and_eq_true, decide_eq_true_eq] at h
  obtain ⟨⟨h1, h2⟩, h3⟩ := h
  have hat : ∀ i a, M[i]? = some a → insOk M.length i a = true := fun i a hi => by
    have := allOk_at h3 hi
    rwa [Nat.zero_add] at this
  refine ⟨⟨by omega, fun n p i j hj => ?_, fun tx p i ht => ?_⟩, h2, fun x hx => ?_⟩
  · unfold pushes at hj
    split at hj
    · simp at hj
    · rename_i a ha
      have hi := (List.getElem?_eq_some_iff.1 ha).1
      have ho := hat i a ha
      unfold insOk at ho
      by_cases o1 : a.op = 1
      · simp [o1] at hj
      · by_cases o2 : a.op = 2
        · rw [if_neg o1, if_pos (.inl o2)] at ho
          simp only [Bool.and_eq_true, decide_eq_true_eq] at ho
          rw [if_pos o2] at hj
          split at hj
          · simp only [List.mem_singleton] at hj; omega
          · simp at hj
        · by_cases o3 : a.op = 3
          · rw [if_neg o1, if_pos (.inr o3)] at ho
            simp only [Bool.and_eq_true, decide_eq_true_eq] at ho
            rw [if_neg o2, if_pos o3] at hj
            split at hj
            · simp only [List.mem_singleton] at hj; omega
            · simp at hj
          · by_cases o4 : a.op = 4
            · rw [if_neg o1, if_neg (by omega), if_pos o4] at ho
              simp only [Bool.and_eq_true, decide_eq_true_eq] at ho
              rw [if_neg o2, if_neg o3, if_pos o4] at hj
              simp only [List.mem_singleton] at hj
              omega
            · by_cases o5 : a.op = 5
              · rw [if_neg o1, if_neg (by omega), if_neg o4, if_pos o5] at ho
                simp only [Bool.and_eq_true, decide_eq_true_eq] at ho
                rw [if_neg o2, if_neg o3, if_neg o4, if_pos o5] at hj
                simp only [List.mem_cons, List.not_mem_nil, or_false] at hj
                rcases hj with rfl | rfl <;> omega
              · rw [if_neg o2, if_neg o3, if_neg o4, if_neg o5] at hj
                simp at hj
  · unfold takesB at ht
    split at ht
    · cases ht
    · rename_i a ha
      have hi := (List.getElem?_eq_some_iff.1 ha).1
      have ho := hat i a ha
      simp only [Bool.and_eq_true, decide_eq_true_eq] at ht
      unfold insOk at ho
      rw [if_pos ht.1.1] at ho
      simp only [Bool.and_eq_true, decide_eq_true_eq] at ho
      omega
  · obtain ⟨i, hi⟩ := List.getElem?_of_mem hx
    have ho := hat i x hi
    unfold insOk at ho
    refine ⟨fun h => ?_, fun h => ?_⟩
    · rcases h with h | h
      · rw [if_neg (by omega), if_neg (by omega), if_pos h] at ho
        simp only [Bool.and_eq_true, decide_eq_true_eq] at ho
        exact ho.1.1.1
      · rw [if_neg (by omega), if_neg (by omega), if_neg (by omega), if_pos h] at ho
        simp only [Bool.and_eq_true, decide_eq_true_eq] at ho
        exact ho.1.1.1.1
    · rw [if_neg (by omega), if_neg (by omega), if_neg (by omega), if_pos h] at ho
      simp only [Bool.and_eq_true, decide_eq_true_eq] at ho
      exact ho.1.1.2
end Go.Proofs.YtfmcjmkdlldlhaaDoor
