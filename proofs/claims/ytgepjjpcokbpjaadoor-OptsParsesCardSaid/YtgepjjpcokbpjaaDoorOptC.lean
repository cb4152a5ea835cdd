/-
  How many parts and files a line gives, and how long they are.
-/
import Derived.Test.YtgepjjpcokbpjaaDoorOptM
namespace Go.Proofs.YtgepjjpcokbpjaaDoor

def Fine (N : Nat) (r : PRes) (m : Nat) : Prop := r.1.parts.length + r.1.files.length ≤ m ∧ (∀ x ∈ r.1.parts, x.2.size ≤ N) ∧ (∀ x ∈ r.1.files, x.size ≤ N)
theorem fine_zero (N m : Nat) (e : Int) (s : Str) : Fine N (opt0, e, s) m := ⟨Nat.zero_le _, (fun x (h : x ∈ ([] : List Prt)) => by cases h), (fun x (h : x ∈ ([] : List Str)) => by cases h)⟩
def KeepL (o : Opt) : LRes → Prop
  | .done o' => o'.parts = o.parts
  | .arg o' _ _ => o'.parts = o.parts
  | .bad _ _ => True
theorem let_parts (s : Str) : ∀ (fuel pos : Nat) (o : Opt), KeepL o (letF s fuel pos o)
  | 0, pos, o => by rw [letF]; exact rfl
  | fuel + 1, pos, o => by
    rw [letF]
    split
    · split
      · exact let_parts s fuel _ { o with q := true }
      · split
        · exact let_parts s fuel _ { o with e := true }
        · split
          · exact let_parts s fuel _ { o with i := true, a := true }
          · split
            · exact let_parts s fuel _ { o with a := true }
            · split
              · exact rfl
              · exact trivial
    · exact rfl
theorem fin_fine (N : Nat) (l : List Str) (o : Opt) (hl : ∀ x ∈ l, x.size ≤ N) (ho : ∀ x ∈ o.parts, x.2.size ≤ N) : Fine N (finish l o) (o.parts.length + l.length) := by
  by_cases hp : o.parts = []
  · cases l with
    | nil => rw [fin_none o hp]; exact fine_zero _ _ _ _
    | cons x r =>
      rw [fin_one x r o hp]
      refine ⟨by simp; omega, fun y hy => ?_, fun y hy => hl y (List.mem_cons_of_mem _ hy)⟩
      simp only [List.mem_singleton] at hy
      subst hy
      exact hl x (List.mem_cons_self ..)
  · rw [fin_many l o hp]
    exact ⟨Nat.le_refl _, ho, hl⟩
theorem Fine.mono {N m m' : Nat} {r : PRes} (h : Fine N r m) (hm : m ≤ m') : Fine N r m' := ⟨Nat.le_trans h.1 hm, h.2⟩
theorem par_fine (N : Nat) : ∀ (n : Nat) (l : List Str) (o : Opt), l.length ≤ n → (∀ x ∈ l, x.size ≤ N) → (∀ x ∈ o.parts, x.2.size ≤ N) → Fine N (parF l o) (o.parts.length + l.length)
  | n, [], o, _, hl, ho => by rw [par_nil]; exact fin_fine N [] o hl ho
  | 0, _ :: _, _, hn, _, _ => by simp at hn
  | n + 1, w :: rest, o, hn, hl, ho => by
    have hr : rest.length ≤ n := by simpa using hn
    have hlr : ∀ x ∈ rest, x.size ≤ N := fun x hx => hl x (List.mem_cons_of_mem _ hx)
    have hlw : w.size ≤ N := hl w (List.mem_cons_self ..)
    cases hi : isOpt w with
    | false => rw [par_not w rest o hi]; exact fin_fine N _ o hl ho
    | true =>
      by_cases h2 : w = str [45, 45]
      · subst h2; rw [par_end]; exact (fin_fine N rest o hlr ho).mono (by rw [List.length_cons]; omega)
      · have hpt := let_parts (tailW w) (tailW w).size 0 o
        cases hlt : letF (tailW w) (tailW w).size 0 o with
        | done o' =>
          rw [hlt] at hpt
          rw [par_done w rest o o' hi h2 hlt]
          exact (par_fine N n rest o' hr hlr (by rw [show o'.parts = o.parts from hpt]; exact ho)).mono (by rw [show o'.parts = o.parts from hpt]; simp only [List.length_cons]; omega)
        | arg o' f pos =>
          rw [hlt] at hpt
          have hpt : o'.parts = o.parts := hpt
          have hpu : ∀ t : Str, t.size ≤ N → ∀ x ∈ (push o' f t).parts, x.2.size ≤ N := fun t ht x hx => by
            unfold push at hx
            rcases List.mem_append.1 hx with hx | hx
            · rw [hpt] at hx; exact ho x hx
            · simp only [List.mem_singleton] at hx; subst hx; exact ht
          have hpl : ∀ t : Str, (push o' f t).parts.length = o.parts.length + 1 := fun t => by unfold push; simp [hpt]
          by_cases ht : w.extract (pos + 2) w.size = ByteArray.empty
          · cases rest with
            | nil => rw [par_use w o o' f pos hi h2 hlt ht]; exact fine_zero _ _ _ _
            | cons t rest =>
              rw [par_need w t rest o o' f pos hi h2 hlt ht]
              exact (par_fine N n rest (push o' f t) (by simp at hr; omega) (fun x hx => hlr x (List.mem_cons_of_mem _ hx)) (hpu t (hlr t (List.mem_cons_self ..)))).mono (by rw [hpl]; simp; omega)
          · rw [par_arg w rest o o' f pos hi h2 hlt ht]
            exact (par_fine N n rest (push o' f _) hr hlr (hpu _ (by rw [ByteArray.size_extract]; omega))).mono (by rw [hpl]; simp; omega)
        | bad r pos =>
          rw [par_bad w rest o r pos hi h2 hlt]
          exact fine_zero _ _ _ _
/-- What is written is no longer. -/
theorem print_fine (N : Nat) (hN : 2 ≤ N) (o : Opt) (hp : ∀ x ∈ o.parts, x.2.size ≤ N) (hf : ∀ x ∈ o.files, x.size ≤ N) : (printL o).length ≤ 2 * o.parts.length + o.files.length + 5 ∧ ∀ x ∈ printL o, x.size ≤ N := by
  have hfl : ∀ b l, (flagW b l).length ≤ 1 := fun b l => by unfold flagW; split <;> simp
  have hfs : ∀ b (l : List UInt8), l.length ≤ 2 → ∀ x ∈ flagW b l, x.size ≤ N := fun b l hl x hx => by
    unfold flagW at hx
    split at hx
    · simp only [List.mem_singleton] at hx
      subst hx
      exact Nat.le_trans (show (str l).size ≤ 2 from by show l.toArray.size ≤ 2; simpa using hl) hN
    · cases hx
  have hpw : ∀ l : List Prt, (l.flatMap partW).length = 2 * l.length := fun l => by
    induction l with
    | nil => rfl
    | cons x l ih => rw [List.flatMap_cons, List.length_append, List.length_cons, ih]; simp [partW]; omega
  unfold printL
  constructor
  · simp only [List.length_append, hpw, List.length_cons, List.length_nil]
    have h1 := hfl o.q [45, 110]
    have h2 := hfl o.e [45, 69]
    have h3 := hfl (o.a && !o.i) [45, 115]
    have h4 := hfl o.i [45, 105]
    omega
  · intro x hx
    simp only [List.mem_append] at hx
    rcases hx with (((((hx | hx) | hx) | hx) | hx) | hx) | hx
    · exact hfs _ _ (by simp) x hx
    · exact hfs _ _ (by simp) x hx
    · exact hfs _ _ (by simp) x hx
    · exact hfs _ _ (by simp) x hx
    · rw [List.mem_flatMap] at hx
      obtain ⟨p, hp1, hp2⟩ := hx
      unfold partW at hp2
      rcases List.mem_cons.1 hp2 with rfl | hp2
      · exact Nat.le_trans (show _ ≤ 2 by split <;> exact Nat.le_refl _) hN
      · rcases List.mem_cons.1 hp2 with rfl | hp2
        · exact hp p hp1
        · cases hp2
    · rcases List.mem_cons.1 hx with rfl | hx
      · exact hN
      · cases hx
    · exact hf x hx
end Go.Proofs.YtgepjjpcokbpjaaDoor
