/-
  The search of layer 8 in plain mathematics: how a place is gone through, the ends of a place, the first and longest match.
-/
import Derived.Test.YtfmcjmkdlldlhaaDoorCls
namespace Go.Proofs.YtfmcjmkdlldlhaaDoor
/-- An instruction, plainly. -/
structure Ins where
  op : Int
  set : List Nat
  x : Int
  y : Int
/-- Where an instruction leads at the same place: what goes onto the stack, the top first. -/
def pushes (M : List Ins) (n p i : Nat) : List Nat := match M[i]? with
  | none => []
  | some a => if a.op = 2 then (if p = 0 then [i + 1] else []) else if a.op = 3 then (if p = n then [i + 1] else []) else if a.op = 4 then [a.x.toNat] else if a.op = 5 then [a.x.toNat, a.y.toNat] else []
/-- Does it take the byte at the place? -/
def takesB (M : List Ins) (tx : List Int) (p i : Nat) : Bool := match M[i]? with
  | none => false
  | some a => decide (a.op = 1) && decide (p < tx.length) && hasL a.set (tx[p]?.getD 0).toNat
def isDone (M : List Ins) (i : Nat) : Bool := match M[i]? with
  | none => false
  | some a => decide (a.op = 6)
/-- What holds of every shaped machine. -/
structure Good (M : List Ins) : Prop where
  pos : 0 < M.length
  push : ∀ n p i j, j ∈ pushes M n p i → j < M.length
  next : ∀ tx p i, takesB M tx p i = true → i + 1 < M.length

/-- In the midst of a place. -/
structure LSt where
  V : Nat → Bool
  k : List Nat
  nx : List (Nat × Nat)
  sp : Nat
  dn : List Nat
def upd (V : Nat → Bool) (i : Nat) : Nat → Bool := fun j => if j = i then true else V j
def unv (m : Nat) (V : Nat → Bool) : Nat := (List.range m).countP (fun i => !V i)
theorem unv_upd (m : Nat) (V : Nat → Bool) (i : Nat) : (i < m → V i = false → unv m (upd V i) + 1 = unv m V) ∧ (m ≤ i → unv m (upd V i) = unv m V) := by
  induction m with
  | zero => exact ⟨fun h => absurd h (Nat.not_lt_zero _), fun _ => rfl⟩
  | succ m ih =>
    obtain ⟨h1, h2⟩ := ih
    have e : ∀ W : Nat → Bool, unv (m + 1) W = unv m W + (if W m then 0 else 1) := fun W => by
      unfold unv
      rw [List.range_succ, List.countP_append]
      cases hW : W m <;> simp [hW]
    refine ⟨fun hi hv => ?_, fun hi => ?_⟩
    · rw [e, e]
      by_cases him : i = m
      · subst him
        have := h2 (Nat.le_refl _)
        simp [upd, hv]
        have e3 : unv i (upd V i) = unv i V := this
        unfold upd at e3
        omega
      · have h3 := h1 (by omega) hv
        have : upd V i m = V m := by unfold upd; rw [if_neg (fun h => him h.symm)]
        rw [this]
        omega
    · rw [e, e, h2 (by omega)]
      have : upd V i m = V m := by unfold upd; rw [if_neg (by omega)]
      rw [this]
theorem unv_le (m : Nat) (V : Nat → Bool) : unv m V ≤ m := by
  unfold unv
  refine Nat.le_trans (List.countP_le_length) (by simp)
theorem unv_none (m : Nat) : unv m (fun _ => false) = m := by
  unfold unv
  rw [List.countP_eq_length.2 (by simp)]
  simp
/-- One instruction: the top of the stack. -/
def stp (M : List Ins) (tx : List Int) (p f : Nat) (s : LSt) : LSt := match s.k with
  | [] => s
  | i :: k => if (s.V i || decide (M.length ≤ i)) = true then { s with k := k } else
    { V := upd s.V i, k := pushes M tx.length p i ++ k, nx := s.nx ++ (if takesB M tx p i then [(i + 1, f)] else []), sp := s.sp + 1, dn := s.dn ++ (if isDone M i then [f] else []) }
def mu (m : Nat) (s : LSt) : Nat := 2 * unv m s.V + s.k.length
theorem pushes_len (M : List Ins) (n p i : Nat) : (pushes M n p i).length ≤ 2 := by
  unfold pushes
  split
  · simp
  · split
    · split <;> simp
    · split
      · split <;> simp
      · split
        · simp
        · split <;> simp
section
variable (M : List Ins) (tx : List Int) (p f : Nat)
theorem stp_mu (s : LSt) (hk : s.k ≠ []) : mu M.length (stp M tx p f s) < mu M.length s := by
  unfold stp mu
  split
  · exact absurd (by assumption) hk
  · rename_i i k hk'
    split
    · simp [hk']
    · rename_i hv
      simp only [Bool.or_eq_true, decide_eq_true_eq, not_or, Bool.not_eq_true, Nat.not_le] at hv
      have h1 := (unv_upd M.length s.V i).1 hv.2 hv.1
      have h2 := pushes_len M tx.length p i
      simp only [hk', List.length_append, List.length_cons]
      omega
def itr (M : List Ins) (tx : List Int) (p f : Nat) : Nat → LSt → LSt
  | 0, s => s
  | n + 1, s => itr M tx p f n (stp M tx p f s)
theorem stp_nil (s : LSt) (h : s.k = []) : stp M tx p f s = s := by
  unfold stp
  rw [h]
theorem itr_nil (n : Nat) (s : LSt) (h : s.k = []) : itr M tx p f n s = s := by
  induction n with
  | zero => rfl
  | succ n ih => rw [itr, stp_nil M tx p f s h, ih]
theorem itr_add (a b : Nat) (s : LSt) : itr M tx p f (a + b) s = itr M tx p f b (itr M tx p f a s) := by
  induction a generalizing s with
  | zero => rw [Nat.zero_add]; rfl
  | succ a ih => rw [Nat.succ_add]; show itr M tx p f (a + b) _ = _; rw [ih]; rfl
theorem itr_k (n : Nat) (s : LSt) (h : mu M.length s ≤ n) : (itr M tx p f n s).k = [] := by
  induction n generalizing s with
  | zero =>
    have : s.k.length = 0 := by unfold mu at h; omega
    exact List.eq_nil_of_length_eq_zero this
  | succ n ih =>
    by_cases hk : s.k = []
    · rw [itr_nil M tx p f _ s hk, hk]
    · have := stp_mu M tx p f s hk
      exact ih _ (by omega)
def fin (s : LSt) : LSt := itr M tx p f (mu M.length s) s
theorem fin_k (s : LSt) : (fin M tx p f s).k = [] := itr_k M tx p f _ s (Nat.le_refl _)
theorem itr_fin (n : Nat) (s : LSt) (h : mu M.length s ≤ n) : itr M tx p f n s = fin M tx p f s := by
  obtain ⟨d, rfl⟩ := Nat.exists_eq_add_of_le h
  rw [itr_add]
  exact itr_nil M tx p f d _ (fin_k M tx p f s)
theorem fin_nil (s : LSt) (h : s.k = []) : fin M tx p f s = s := itr_nil M tx p f _ s h
theorem fin_stp (s : LSt) (h : s.k ≠ []) : fin M tx p f (stp M tx p f s) = fin M tx p f s := by
  have h1 := stp_mu M tx p f s h
  obtain ⟨d, hd⟩ : ∃ d, mu M.length s = d + 1 := ⟨mu M.length s - 1, by omega⟩
  rw [show fin M tx p f s = itr M tx p f (d + 1) s by unfold fin; rw [hd]]
  exact (itr_fin M tx p f d _ (by omega)).symm
theorem fin_ind {I : LSt → Prop} (hs : ∀ s, I s → s.k ≠ [] → I (stp M tx p f s)) (s : LSt) (h : I s) : I (fin M tx p f s) := by
  have : ∀ n s, I s → I (itr M tx p f n s) := by
    intro n
    induction n with
    | zero => intro s h; exact h
    | succ n ih =>
      intro s h
      refine ih _ ?_
      by_cases hk : s.k = []
      · rw [stp_nil _ _ _ _ s hk]; exact h
      · exact hs s h hk
  exact this _ s h

/-- To which instructions those of a place lead, at that place. -/
inductive EpsR (M : List Ins) (n p : Nat) (j : Nat) : Nat → Prop
  | refl : EpsR M n p j j
  | step {i k : Nat} : EpsR M n p j i → k ∈ pushes M n p i → EpsR M n p j k
/-- One thread, gone through to its end. -/
structure Thr (s s' : LSt) (j : Nat) : Prop where
  V : ∀ i, s'.V i = true ↔ s.V i = true ∨ EpsR M tx.length p j i
  nx : ∃ l, s'.nx = s.nx ++ l ∧ ∀ t : Nat × Nat, t ∈ l ↔ t.2 = f ∧ ∃ i, t.1 = i + 1 ∧ takesB M tx p i = true ∧ s'.V i = true ∧ s.V i = false
  dn : ∃ l, s'.dn = s.dn ++ l ∧ ∀ x, x ∈ l ↔ x = f ∧ ∃ i, isDone M i = true ∧ s'.V i = true ∧ s.V i = false
  k : s'.k = []
  cnt : s'.sp + unv M.length s'.V = s.sp + unv M.length s.V
  nxl : s'.nx.length + unv M.length s'.V ≤ s.nx.length + unv M.length s.V
def Clo (V : Nat → Bool) : Prop := ∀ i, V i = true → ∀ j ∈ pushes M tx.length p i, V j = true
theorem upd_true (V : Nat → Bool) (i j : Nat) : upd V i j = true ↔ j = i ∨ V j = true := by
  unfold upd
  split <;> simp [*]
theorem thread_any (hG : Good M) (s : LSt) (hC : Clo M tx p s.V) (j : Nat) (hj : j < M.length) : Thr M tx p f s (fin M tx p f { s with k := [j] }) j := by
  -- the invariant of the walk
  let I : LSt → Prop := fun c =>
    (∀ i, s.V i = true → c.V i = true) ∧ (∀ i, c.V i = true → s.V i = true ∨ EpsR M tx.length p j i) ∧ (∀ i ∈ c.k, EpsR M tx.length p j i ∧ i < M.length) ∧
    (∀ i, c.V i = true → ∀ k ∈ pushes M tx.length p i, c.V k = true ∨ k ∈ c.k) ∧ (c.V j = true ∨ j ∈ c.k) ∧
    (∃ l, c.nx = s.nx ++ l ∧ ∀ t : Nat × Nat, t ∈ l ↔ t.2 = f ∧ ∃ i, t.1 = i + 1 ∧ takesB M tx p i = true ∧ c.V i = true ∧ s.V i = false) ∧
    (∃ l, c.dn = s.dn ++ l ∧ ∀ x, x ∈ l ↔ x = f ∧ ∃ i, isDone M i = true ∧ c.V i = true ∧ s.V i = false) ∧
    (c.sp + unv M.length c.V = s.sp + unv M.length s.V) ∧ (c.nx.length + unv M.length c.V ≤ s.nx.length + unv M.length s.V)
  have hI : I (fin M tx p f { s with k := [j] }) := by
    refine fin_ind M tx p f ?_ _ ?_
    · rintro c ⟨i1, i2, i3, i4, i5, ⟨l6, e6, i6⟩, ⟨l7, e7, i7⟩, i8, i9⟩ hk
      unfold stp
      split
      · exact absurd (by assumption) hk
      · rename_i i k hk'
        obtain ⟨hE, him⟩ := i3 i (by rw [hk']; exact List.mem_cons_self)
        split
        · rename_i hv
          have hv : c.V i = true := by simpa [show ¬ M.length ≤ i by omega] using hv
          refine ⟨i1, i2, fun q hq => i3 q (by rw [hk']; exact List.mem_cons_of_mem _ hq), fun q hq r hr => ?_, ?_, ⟨l6, e6, i6⟩, ⟨l7, e7, i7⟩, i8, i9⟩
          · rcases i4 q hq r hr with h | h
            · exact .inl h
            · rw [hk'] at h
              rcases List.mem_cons.1 h with rfl | h
              · exact .inl hv
              · exact .inr h
          · rcases i5 with h | h
            · exact .inl h
            · rw [hk'] at h
              rcases List.mem_cons.1 h with h | h
              · subst h; exact .inl hv
              · exact .inr h
        · rename_i hv
          simp only [Bool.or_eq_true, decide_eq_true_eq, not_or, Bool.not_eq_true, Nat.not_le] at hv
          have hu := (unv_upd M.length c.V i).1 him hv.1
          have hsv : s.V i = false := by
            cases h : s.V i
            · rfl
            · have := i1 i h; rw [hv.1] at this; cases this
          refine ⟨fun q hq => (upd_true _ _ _).2 (.inr (i1 q hq)), fun q hq => ?_, fun q hq => ?_, fun q hq r hr => ?_, ?_, ⟨l6 ++ (if takesB M tx p i then [(i + 1, f)] else []), by rw [e6, List.append_assoc], fun t => ?_⟩, ⟨l7 ++ (if isDone M i then [f] else []), by rw [e7, List.append_assoc], fun x => ?_⟩, ?_, ?_⟩
          · rcases (upd_true _ _ _).1 hq with rfl | h
            · exact .inr hE
            · exact i2 q h
          · rcases List.mem_append.1 hq with h | h
            · exact ⟨.step hE h, hG.push _ _ _ _ h⟩
            · exact i3 q (by rw [hk']; exact List.mem_cons_of_mem _ h)
          · rcases (upd_true _ _ _).1 hq with rfl | h
            · exact .inr (List.mem_append_left _ hr)
            · rcases i4 q h r hr with h | h
              · exact .inl ((upd_true _ _ _).2 (.inr h))
              · rw [hk'] at h
                rcases List.mem_cons.1 h with h | h
                · exact .inl ((upd_true _ _ _).2 (.inl h))
                · exact .inr (List.mem_append_right _ h)
          · rcases i5 with h | h
            · exact .inl ((upd_true _ _ _).2 (.inr h))
            · rw [hk'] at h
              rcases List.mem_cons.1 h with h | h
              · exact .inl ((upd_true _ _ _).2 (.inl h))
              · exact .inr (List.mem_append_right _ h)
          · rw [List.mem_append, i6 t]
            constructor
            · rintro (⟨h1, q, h2, h3, h4, h5⟩ | h)
              · exact ⟨h1, q, h2, h3, (upd_true _ _ _).2 (.inr h4), h5⟩
              · split at h
                · rename_i ht
                  simp only [List.mem_singleton] at h
                  subst h
                  exact ⟨rfl, i, rfl, ht, (upd_true _ _ _).2 (.inl rfl), hsv⟩
                · cases h
            · rintro ⟨h1, q, h2, h3, h4, h5⟩
              rcases (upd_true _ _ _).1 h4 with rfl | h
              · right
                rw [if_pos h3]
                simp only [List.mem_singleton]
                exact Prod.ext h2 h1
              · exact .inl ⟨h1, q, h2, h3, h, h5⟩
          · rw [List.mem_append, i7 x]
            constructor
            · rintro (⟨h1, q, h3, h4, h5⟩ | h)
              · exact ⟨h1, q, h3, (upd_true _ _ _).2 (.inr h4), h5⟩
              · split at h
                · rename_i ht
                  simp only [List.mem_singleton] at h
                  subst h
                  exact ⟨rfl, i, ht, (upd_true _ _ _).2 (.inl rfl), hsv⟩
                · cases h
            · rintro ⟨h1, q, h3, h4, h5⟩
              rcases (upd_true _ _ _).1 h4 with rfl | h
              · right
                rw [if_pos h3]
                simp only [List.mem_singleton]
                exact h1
              · exact .inl ⟨h1, q, h3, h, h5⟩
          · simp only
            omega
          · simp only [List.length_append]
            split <;> simp <;> omega
    · refine ⟨fun _ h => h, fun _ h => .inl h, fun i hi => ?_, fun i hi k hk => .inl (hC i hi k hk), .inr List.mem_cons_self, ⟨[], (List.append_nil _).symm, fun t => ⟨fun h => absurd h (by simp), ?_⟩⟩, ⟨[], (List.append_nil _).symm, fun t => ⟨fun h => absurd h (by simp), ?_⟩⟩, rfl, Nat.le_refl _⟩
      · simp only [List.mem_singleton] at hi
        subst hi
        exact ⟨.refl, hj⟩
      · rintro ⟨_, _, _, _, h1, h2⟩
        simp only at h1
        rw [h1] at h2; cases h2
      · rintro ⟨_, _, _, h1, h2⟩
        simp only at h1
        rw [h1] at h2; cases h2
  have hk := fin_k M tx p f { s with k := [j] }
  obtain ⟨i1, i2, i3, i4, i5, i6, i7, i8, i9⟩ := hI
  rw [hk] at i4 i5
  refine ⟨fun i => ⟨i2 i, fun h => ?_⟩, i6, i7, hk, i8, i9⟩
  rcases h with h | h
  · exact i1 i h
  · induction h with
    | refl => exact i5.resolve_right (by simp)
    | step _ hp ih => exact (i4 _ ih _ hp).resolve_right (by simp)

/-! ### All threads of a place -/
def begS (sp : Nat) : LSt := { V := fun _ => false, k := [], nx := [], sp := sp, dn := [] }
def thrF (s : LSt) (t : Nat × Nat) : LSt := fin M tx p t.2 { s with k := [t.1] }
def placeF (L : List (Nat × Nat)) (sp : Nat) : LSt := L.foldl (thrF M tx p) (begS sp)
/-- f is the least label with which the threads L come to i. -/
def Lab (L : List (Nat × Nat)) (i f : Nat) : Prop := (∃ t ∈ L, t.2 = f ∧ EpsR M tx.length p t.1 i) ∧ ∀ t ∈ L, EpsR M tx.length p t.1 i → f ≤ t.2
structure Plc (L : List (Nat × Nat)) (sp : Nat) (s : LSt) : Prop where
  V : ∀ i, s.V i = true ↔ ∃ t ∈ L, EpsR M tx.length p t.1 i
  nx : ∀ t : Nat × Nat, t ∈ s.nx ↔ ∃ i, t.1 = i + 1 ∧ takesB M tx p i = true ∧ Lab M tx p L i t.2
  srt : s.nx.Pairwise (fun a b => a.2 ≤ b.2)
  dn : ∀ x, x ∈ s.dn ↔ ∃ i, isDone M i = true ∧ Lab M tx p L i x
  k : s.k = []
  cnt : s.sp + unv M.length s.V = sp + M.length
  nxl : s.nx.length + unv M.length s.V ≤ M.length
theorem lab_snoc {L : List (Nat × Nat)} {t0 : Nat × Nat} (hs : ∀ t ∈ L, t.2 ≤ t0.2) (i x : Nat) :
    Lab M tx p (L ++ [t0]) i x ↔ Lab M tx p L i x ∨ (x = t0.2 ∧ EpsR M tx.length p t0.1 i ∧ ¬ ∃ t ∈ L, EpsR M tx.length p t.1 i) := by
  constructor
  · rintro ⟨⟨t, ht, h1, h2⟩, h3⟩
    by_cases hv : ∃ t ∈ L, EpsR M tx.length p t.1 i
    · left
      obtain ⟨u, hu, he⟩ := hv
      refine ⟨?_, fun t' h' => h3 t' (List.mem_append_left _ h')⟩
      rcases List.mem_append.1 ht with h | h
      · exact ⟨t, h, h1, h2⟩
      · simp only [List.mem_singleton] at h
        subst h
        have a := h3 u (List.mem_append_left _ hu) he
        have b := hs u hu
        exact ⟨u, hu, by omega, he⟩
    · right
      rcases List.mem_append.1 ht with h | h
      · exact absurd ⟨t, h, h2⟩ hv
      · simp only [List.mem_singleton] at h
        subst h
        exact ⟨h1.symm, h2, hv⟩
  · rintro (⟨⟨t, ht, h1, h2⟩, h3⟩ | ⟨rfl, h2, h3⟩)
    · refine ⟨⟨t, List.mem_append_left _ ht, h1, h2⟩, fun t' h' he => ?_⟩
      rcases List.mem_append.1 h' with h | h
      · exact h3 t' h he
      · simp only [List.mem_singleton] at h
        subst h
        have := hs t ht
        omega
    · refine ⟨⟨t0, List.mem_append_right _ List.mem_cons_self, rfl, h2⟩, fun t' h' he => ?_⟩
      rcases List.mem_append.1 h' with h | h
      · exact absurd ⟨t', h, he⟩ h3
      · simp only [List.mem_singleton] at h
        subst h
        exact Nat.le_refl _
theorem place_any (hG : Good M) (L : List (Nat × Nat)) (sp : Nat) (hs : L.Pairwise (fun a b => a.2 ≤ b.2)) (hm : ∀ t ∈ L, t.1 < M.length) : Plc M tx p L sp (placeF M tx p L sp) := by
  unfold placeF
  have hrev : ∀ (K : List (Nat × Nat)), K.Pairwise (fun a b => b.2 ≤ a.2) → (∀ t ∈ K, t.1 < M.length) → Plc M tx p K.reverse sp (K.reverse.foldl (thrF M tx p) (begS sp)) := by
    intro K
    induction K with
    | nil =>
      intro _ _
      refine ⟨fun i => ?_, fun t => ?_, List.Pairwise.nil, fun x => ?_, rfl, ?_, ?_⟩
      · simp [begS]
      · simp [begS, Lab]
      · simp [begS, Lab]
      · simp only [List.reverse_nil, List.foldl_nil, begS]; rw [unv_none]
      · simp only [List.reverse_nil, List.foldl_nil, begS]; rw [unv_none]; simp
    | cons t0 K ih =>
      intro hs hm
      obtain ⟨hs1, hs2⟩ := List.pairwise_cons.1 hs
      have P := ih hs2 fun t ht => hm t (List.mem_cons_of_mem _ ht)
      rw [List.reverse_cons, List.foldl_append]
      generalize hS : K.reverse.foldl (thrF M tx p) (begS sp) = s at P
      have hle : ∀ t ∈ K.reverse, t.2 ≤ t0.2 := fun t ht => hs1 t (List.mem_reverse.1 ht)
      have hC : Clo M tx p s.V := fun i hi j hj => by
        obtain ⟨t, ht, he⟩ := (P.V i).1 hi
        exact (P.V j).2 ⟨t, ht, .step he hj⟩
      have T := thread_any M tx p t0.2 hG s hC t0.1 (hm t0 List.mem_cons_self)
      show Plc M tx p (K.reverse ++ [t0]) sp (fin M tx p t0.2 { s with k := [t0.1] })
      generalize fin M tx p t0.2 { s with k := [t0.1] } = s' at T
      have hVn : ∀ i, s'.V i = true ∧ s.V i = false ↔ EpsR M tx.length p t0.1 i ∧ ¬ ∃ t ∈ K.reverse, EpsR M tx.length p t.1 i := by
        intro i
        rw [T.V i]
        constructor
        · rintro ⟨h1, h2⟩
          have hn : ¬ ∃ t ∈ K.reverse, EpsR M tx.length p t.1 i := fun h => by have := (P.V i).2 h; rw [h2] at this; cases this
          rcases h1 with h1 | h1
          · rw [h2] at h1; cases h1
          · exact ⟨h1, hn⟩
        · rintro ⟨h1, h2⟩
          refine ⟨.inr h1, ?_⟩
          cases h : s.V i
          · rfl
          · exact absurd ((P.V i).1 h) h2
      obtain ⟨l, e1, e2⟩ := T.nx
      obtain ⟨l', e3, e4⟩ := T.dn
      refine ⟨fun i => ?_, fun t => ?_, ?_, fun x => ?_, T.k, ?_, ?_⟩
      · rw [T.V i, P.V i]
        constructor
        · rintro (⟨t, ht, he⟩ | h)
          · exact ⟨t, List.mem_append_left _ ht, he⟩
          · exact ⟨t0, List.mem_append_right _ List.mem_cons_self, h⟩
        · rintro ⟨t, ht, he⟩
          rcases List.mem_append.1 ht with h | h
          · exact .inl ⟨t, h, he⟩
          · simp only [List.mem_singleton] at h
            subst h
            exact .inr he
      · rw [e1, List.mem_append, P.nx t, e2 t]
        constructor
        · rintro (⟨i, h1, h2, h3⟩ | ⟨h1, i, h2, h3, h4⟩)
          · exact ⟨i, h1, h2, (lab_snoc M tx p hle i _).2 (.inl h3)⟩
          · exact ⟨i, h2, h3, (lab_snoc M tx p hle i _).2 (.inr ⟨h1, (hVn i).1 h4⟩)⟩
        · rintro ⟨i, h1, h2, h3⟩
          rcases (lab_snoc M tx p hle i _).1 h3 with h | ⟨h, h'⟩
          · exact .inl ⟨i, h1, h2, h⟩
          · exact .inr ⟨h, i, h1, h2, (hVn i).2 h'⟩
      · rw [e1, List.pairwise_append]
        refine ⟨P.srt, ?_, fun a ha b hb => ?_⟩
        · refine List.Pairwise.imp_of_mem (R := fun _ _ => True) (fun {a b} ha hb _ => ?_) (List.pairwise_of_forall (fun _ _ => trivial))
          rw [((e2 a).1 ha).1, ((e2 b).1 hb).1]
          exact Nat.le_refl _
        · rw [((e2 b).1 hb).1]
          obtain ⟨i, _, _, ⟨t, ht, h1, _⟩, _⟩ := (P.nx a).1 ha
          rw [← h1]
          exact hle t ht
      · rw [e3, List.mem_append, P.dn x, e4 x]
        constructor
        · rintro (⟨i, h1, h2⟩ | ⟨h1, i, h2, h3⟩)
          · exact ⟨i, h1, (lab_snoc M tx p hle i _).2 (.inl h2)⟩
          · exact ⟨i, h2, (lab_snoc M tx p hle i _).2 (.inr ⟨h1, (hVn i).1 h3⟩)⟩
        · rintro ⟨i, h1, h3⟩
          rcases (lab_snoc M tx p hle i _).1 h3 with h | ⟨h, h'⟩
          · exact .inl ⟨i, h1, h⟩
          · exact .inr ⟨h, i, h1, (hVn i).2 h'⟩
      · have := T.cnt; have := P.cnt; omega
      · have := T.nxl; have := P.nxl; omega
  have := hrev L.reverse (List.pairwise_reverse.2 hs) fun t ht => hm t (List.mem_reverse.1 ht)
  rwa [List.reverse_reverse] at this
/-! ### Runs -/
/-- The run that begins at f comes to i at p. -/
inductive Run (M : List Ins) (tx : List Int) (f : Nat) : Nat → Nat → Prop
  | start : Run M tx f 0 f
  | eps {i j p : Nat} : Run M tx f i p → j ∈ pushes M tx.length p i → Run M tx f j p
  | byte {i p : Nat} : Run M tx f i p → takesB M tx p i = true → Run M tx f (i + 1) (p + 1)
def IsEnd (M : List Ins) (tx : List Int) (f q : Nat) : Prop := ∃ i, Run M tx f i q ∧ isDone M i = true
/-- It comes to i newly at p: it begins there, or takes a byte. -/
def Ent (M : List Ins) (tx : List Int) (f i p : Nat) : Prop := (i = 0 ∧ p = f) ∨ ∃ i' p', p = p' + 1 ∧ i = i' + 1 ∧ Run M tx f i' p' ∧ takesB M tx p' i' = true
theorem Ent.run {f i p : Nat} (h : Ent M tx f i p) : Run M tx f i p := by
  rcases h with ⟨rfl, rfl⟩ | ⟨i', p', rfl, rfl, h1, h2⟩
  · exact .start
  · exact .byte h1 h2
theorem run_ent {f i p : Nat} (h : Run M tx f i p) : ∃ j, Ent M tx f j p ∧ EpsR M tx.length p j i := by
  induction h with
  | start => exact ⟨0, .inl ⟨rfl, rfl⟩, .refl⟩
  | eps _ hj ih =>
    obtain ⟨j, h1, h2⟩ := ih
    exact ⟨j, h1, .step h2 hj⟩
  | byte h1 h2 _ => exact ⟨_, .inr ⟨_, _, rfl, rfl, h1, h2⟩, .refl⟩
theorem run_eps {f i j p : Nat} (h : Run M tx f j p) (he : EpsR M tx.length p j i) : Run M tx f i p := by
  induction he with
  | refl => exact h
  | step _ hp ih => exact .eps ih hp
theorem run_le {f i p : Nat} (h : Run M tx f i p) : f ≤ p := by
  induction h with
  | start => exact Nat.le_refl _
  | eps _ _ ih => exact ih
  | byte _ _ ih => omega
theorem takes_lt {q i : Nat} (h : takesB M tx q i = true) : q < tx.length := by
  unfold takesB at h
  split at h
  · cases h
  · simp only [Bool.and_eq_true, decide_eq_true_eq] at h
    exact h.1.2
theorem run_in {f i p : Nat} (h : Run M tx f i p) (hf : f ≤ tx.length) : p ≤ tx.length := by
  induction h with
  | start => exact hf
  | eps _ _ ih => exact ih
  | byte _ ht _ => have := takes_lt M tx ht; omega
theorem run_lt (hG : Good M) {f i p : Nat} (h : Run M tx f i p) : i < M.length := by
  cases h with
  | start => exact hG.pos
  | eps _ hj => exact hG.push _ _ _ _ hj
  | byte _ ht => exact hG.next _ _ _ ht
theorem run_via {f i q : Nat} (h : Run M tx f i q) : ∀ r, f ≤ r → r ≤ q → ∃ j, Ent M tx f j r := by
  induction h with
  | start => intro r h1 h2; exact ⟨0, .inl ⟨rfl, by omega⟩⟩
  | eps _ _ ih => exact ih
  | byte h1 h2 ih =>
    intro r h3 h4
    rename_i i p
    by_cases h : r ≤ p
    · exact ih r h3 h
    · exact ⟨i + 1, .inr ⟨i, p, by omega, rfl, h1, h2⟩⟩

/-! ### The ends of a place -/
def endsF (M : List Ins) (tx : List Int) : Nat → Nat → List (Nat × Nat) → List Bool → Nat → List Bool × Nat
  | 0, _, _, B, sp => (B, sp)
  | k + 1, p, L, B, sp => if L = [] then (B, sp) else
    endsF M tx k (p + 1) (placeF M tx p L sp).nx (if (placeF M tx p L sp).dn = [] then B else B.set p true) (placeF M tx p L sp).sp
def endsM (M : List Ins) (tx : List Int) (from_ : Nat) : List Bool × Nat := endsF M tx (tx.length + 1 - from_) from_ [(0, from_)] (List.replicate (tx.length + 1) false) 0
theorem lab_one {L : List (Nat × Nat)} {p f : Nat} (hL : ∀ t : Nat × Nat, t ∈ L ↔ t.2 = f ∧ Ent M tx f t.1 p) (i x : Nat) : Lab M tx p L i x ↔ x = f ∧ Run M tx f i p := by
  constructor
  · rintro ⟨⟨t, ht, h1, h2⟩, h3⟩
    obtain ⟨e1, e2⟩ := (hL t).1 ht
    exact ⟨h1.symm.trans e1, run_eps M tx (e2.run M tx) h2⟩
  · rintro ⟨rfl, hr⟩
    obtain ⟨j, h1, h2⟩ := run_ent M tx hr
    refine ⟨⟨(j, x), (hL _).2 ⟨rfl, h1⟩, rfl, h2⟩, fun t ht _ => ?_⟩
    exact Nat.le_of_eq ((hL t).1 ht).1.symm
theorem srt_one {L : List (Nat × Nat)} {f : Nat} (h : ∀ t ∈ L, t.2 = f) : L.Pairwise (fun a b => a.2 ≤ b.2) :=
  List.Pairwise.imp_of_mem (R := fun _ _ => True) (fun {a b} ha hb _ => by rw [h a ha, h b hb]; exact Nat.le_refl _) (List.pairwise_of_forall (fun _ _ => trivial))
/-- The threads of one place, a step further. -/
theorem one_next (hG : Good M) {L : List (Nat × Nat)} {p f : Nat} (hL : ∀ t : Nat × Nat, t ∈ L ↔ t.2 = f ∧ Ent M tx f t.1 p) (hfp : f ≤ p) (sp : Nat) :
    (∀ t : Nat × Nat, t ∈ (placeF M tx p L sp).nx ↔ t.2 = f ∧ Ent M tx f t.1 (p + 1)) ∧ ((placeF M tx p L sp).dn ≠ [] ↔ IsEnd M tx f p) := by
  have P := place_any M tx p hG L sp (srt_one fun t ht => ((hL t).1 ht).1) fun t ht => run_lt M tx hG (((hL t).1 ht).2.run M tx)
  refine ⟨fun t => ?_, ?_⟩
  · rw [P.nx t]
    constructor
    · rintro ⟨i, h1, h2, h3⟩
      obtain ⟨h4, h5⟩ := (lab_one M tx hL i _).1 h3
      exact ⟨h4, .inr ⟨i, p, rfl, h1, h5, h2⟩⟩
    · rintro ⟨h1, ⟨_, h2⟩ | ⟨i', p', h2, h3, h4, h5⟩⟩
      · omega
      · obtain rfl : p = p' := by omega
        exact ⟨i', h3, h5, (lab_one M tx hL i' _).2 ⟨h1, h4⟩⟩
  · constructor
    · intro h
      obtain ⟨x, l, e⟩ : ∃ x l, (placeF M tx p L sp).dn = x :: l := by
        cases h' : (placeF M tx p L sp).dn with
        | nil => exact absurd h' h
        | cons x l => exact ⟨x, l, rfl⟩
      obtain ⟨i, h1, h2⟩ := (P.dn x).1 (by rw [e]; exact List.mem_cons_self)
      exact ⟨i, ((lab_one M tx hL i x).1 h2).2, h1⟩
    · rintro ⟨i, h1, h2⟩ hn
      have := (P.dn f).2 ⟨i, h2, (lab_one M tx hL i f).2 ⟨rfl, h1⟩⟩
      rw [hn] at this
      cases this
theorem endsF_any (hG : Good M) (f : Nat) : ∀ (k p : Nat) (L : List (Nat × Nat)) (B : List Bool) (sp : Nat), k + p = tx.length + 1 → f ≤ p → f ≤ tx.length → (∀ t : Nat × Nat, t ∈ L ↔ t.2 = f ∧ Ent M tx f t.1 p) → B.length = tx.length + 1 →
    (∀ q, B[q]?.getD false = true ↔ q < p ∧ IsEnd M tx f q) → (endsF M tx k p L B sp).1.length = tx.length + 1 ∧ ∀ q, (endsF M tx k p L B sp).1[q]?.getD false = true ↔ IsEnd M tx f q := by
  intro k
  induction k with
  | zero =>
    intro p L B sp hk hfp hf hL hB hq
    refine ⟨hB, fun q => ?_⟩
    show B[q]?.getD false = true ↔ _
    rw [hq]
    refine ⟨fun h => h.2, fun h => ⟨?_, h⟩⟩
    obtain ⟨i, h1, _⟩ := h
    have := run_in M tx h1 hf
    omega
  | succ k ih =>
    intro p L B sp hk hfp hf hL hB hq
    unfold endsF
    by_cases hn : L = []
    · rw [if_pos hn]
      refine ⟨hB, fun q => ?_⟩
      rw [hq]
      refine ⟨fun h => h.2, fun h => ⟨?_, h⟩⟩
      obtain ⟨i, h1, _⟩ := h
      by_cases hlt : q < p
      · exact hlt
      · obtain ⟨j, hj⟩ := run_via M tx h1 p hfp (by omega)
        have := (hL (j, f)).2 ⟨rfl, hj⟩
        rw [hn] at this
        cases this
    · rw [if_neg hn]
      obtain ⟨h1, h2⟩ := one_next M tx hG hL hfp sp
      refine ih _ _ _ _ (by omega) (by omega) hf h1 ?_ fun q => ?_
      · split
        · exact hB
        · rw [List.length_set]; exact hB
      · split
        · rename_i hd
          have hne : ¬ IsEnd M tx f p := fun h => (h2.2 h) hd
          rw [hq]
          constructor
          · rintro ⟨a, b⟩; exact ⟨by omega, b⟩
          · rintro ⟨a, b⟩
            refine ⟨?_, b⟩
            by_cases e : q = p
            · subst e; exact absurd b hne
            · omega
        · rename_i hd
          have he := h2.1 hd
          rw [List.getElem?_set]
          by_cases e : p = q
          · subst e
            rw [if_pos rfl, if_pos (by omega)]
            simp [he]
          · rw [if_neg e, hq]
            constructor
            · rintro ⟨a, b⟩; exact ⟨by omega, b⟩
            · rintro ⟨a, b⟩; exact ⟨by omega, b⟩
/-- THE ENDS OF A PLACE are those of its runs. -/
theorem ends_spec (hG : Good M) (f : Nat) (hf : f ≤ tx.length) : (endsM M tx f).1.length = tx.length + 1 ∧ ∀ q, (endsM M tx f).1[q]?.getD false = true ↔ IsEnd M tx f q := by
  unfold endsM
  refine endsF_any M tx hG f _ _ _ _ _ (by omega) (Nat.le_refl _) hf (fun t => ?_) (by simp) fun q => ?_
  · constructor
    · intro h
      simp only [List.mem_singleton] at h
      subst h
      exact ⟨rfl, .inl ⟨rfl, rfl⟩⟩
    · rintro ⟨h1, ⟨h2, _⟩ | ⟨i', p', h2, _, h4, _⟩⟩
      · simp only [List.mem_singleton]
        exact Prod.ext h2 h1
      · have := run_le M tx h4
        omega
  · have e : (List.replicate (tx.length + 1) false)[q]?.getD false = false := by
      by_cases h : q < tx.length + 1
      · simp [h]
      · rw [List.getElem?_eq_none (by simp; omega)]; rfl
    rw [e]
    constructor
    · intro h; cases h
    · rintro ⟨h1, i, h2, _⟩
      have := run_le M tx h2
      omega

/-! ### The first match -/
def upB (p : Nat) (b : Option (Nat × Nat)) (f : Nat) : Option (Nat × Nat) := match b with
  | none => some (f, p)
  | some (b0, q) => if f ≤ b0 then some (f, p) else some (b0, q)
def cutB (b : Option (Nat × Nat)) (l : List (Nat × Nat)) : List (Nat × Nat) := match b with
  | none => l
  | some (b0, _) => l.filter (fun t => decide (t.2 ≤ b0))
def findF (M : List Ins) (tx : List Int) : Nat → Nat → List (Nat × Nat) → Option (Nat × Nat) → Nat → Option (Nat × Nat) × Nat
  | 0, _, _, b, sp => (b, sp)
  | k + 1, p, L, b, sp => if (b.isSome && L.isEmpty) = true then (b, sp) else
    findF M tx k (p + 1) (cutB ((placeF M tx p (if b.isNone then L ++ [(0, p)] else L) sp).dn.foldl (upB p) b) (placeF M tx p (if b.isNone then L ++ [(0, p)] else L) sp).nx)
      ((placeF M tx p (if b.isNone then L ++ [(0, p)] else L) sp).dn.foldl (upB p) b) (placeF M tx p (if b.isNone then L ++ [(0, p)] else L) sp).sp
def findM (M : List Ins) (tx : List Int) (from_ : Nat) : Option (Nat × Nat) × Nat := findF M tx (tx.length + 1 - from_) from_ [] none 0
/-- What the calls of done leave. -/
theorem upB_some (p : Nat) (dn : List Nat) : ∀ (b0 q : Nat), (dn.foldl (upB p) (some (b0, q)) = some (b0, q) ∧ ∀ x ∈ dn, b0 < x) ∨ (∃ f, dn.foldl (upB p) (some (b0, q)) = some (f, p) ∧ f ∈ dn ∧ f ≤ b0 ∧ ∀ x ∈ dn, f ≤ x) := by
  induction dn with
  | nil => intro b0 q; exact .inl ⟨rfl, fun x h => by cases h⟩
  | cons y dn ih =>
    intro b0 q
    rw [List.foldl_cons]
    by_cases hy : y ≤ b0
    · rw [show upB p (some (b0, q)) y = some (y, p) by simp [upB, hy]]
      rcases ih y p with ⟨h1, h2⟩ | ⟨f, h1, h2, h3, h4⟩
      · right
        refine ⟨y, h1, List.mem_cons_self, hy, fun x hx => ?_⟩
        rcases List.mem_cons.1 hx with rfl | h
        · exact Nat.le_refl _
        · exact Nat.le_of_lt (h2 x h)
      · right
        refine ⟨f, h1, List.mem_cons_of_mem _ h2, by omega, fun x hx => ?_⟩
        rcases List.mem_cons.1 hx with rfl | h
        · exact h3
        · exact h4 x h
    · rw [show upB p (some (b0, q)) y = some (b0, q) by simp [upB, hy]]
      rcases ih b0 q with ⟨h1, h2⟩ | ⟨f, h1, h2, h3, h4⟩
      · left
        refine ⟨h1, fun x hx => ?_⟩
        rcases List.mem_cons.1 hx with rfl | h
        · omega
        · exact h2 x h
      · right
        refine ⟨f, h1, List.mem_cons_of_mem _ h2, h3, fun x hx => ?_⟩
        rcases List.mem_cons.1 hx with rfl | h
        · omega
        · exact h4 x h
theorem upB_none (p : Nat) (dn : List Nat) : (dn.foldl (upB p) none = none ∧ dn = []) ∨ (∃ f, dn.foldl (upB p) none = some (f, p) ∧ f ∈ dn ∧ ∀ x ∈ dn, f ≤ x) := by
  cases dn with
  | nil => exact .inl ⟨rfl, rfl⟩
  | cons y dn =>
    right
    rw [List.foldl_cons, show upB p none y = some (y, p) from rfl]
    rcases upB_some p dn y p with ⟨h1, h2⟩ | ⟨f, h1, h2, h3, h4⟩
    · refine ⟨y, h1, List.mem_cons_self, fun x hx => ?_⟩
      rcases List.mem_cons.1 hx with rfl | h
      · exact Nat.le_refl _
      · exact Nat.le_of_lt (h2 x h)
    · refine ⟨f, h1, List.mem_cons_of_mem _ h2, fun x hx => ?_⟩
      rcases List.mem_cons.1 hx with rfl | h
      · exact h3
      · exact h4 x h
/-- Whose runs are followed, ahead of p. -/
def BTo (b : Option (Nat × Nat)) (p f : Nat) : Prop := match b with
  | none => f < p
  | some (b0, _) => f ≤ b0
/-- What the search knows ahead of p: it has been from f0 on; `b` bounds where runs are still followed. -/
structure Fnd (M : List Ins) (tx : List Int) (f0 p : Nat) (L : List (Nat × Nat)) (b : Option (Nat × Nat)) : Prop where
  srt : L.Pairwise (fun a c => a.2 ≤ c.2)
  snd : ∀ t ∈ L, f0 ≤ t.2 ∧ t.2 < p ∧ Ent M tx t.2 t.1 p
  cpl : ∀ f, f0 ≤ f → BTo b p f → ∀ j, Ent M tx f j p → ∃ t ∈ L, t.1 = j ∧ t.2 ≤ f
  bst : match b with
    | none => ∀ f q, f0 ≤ f → q < p → ¬ IsEnd M tx f q
    | some (b0, t0) => f0 ≤ b0 ∧ IsEnd M tx b0 t0 ∧ t0 < p ∧ (∀ f q, f0 ≤ f → f < b0 → q < p → ¬ IsEnd M tx f q) ∧ ∀ q, t0 < q → q < p → ¬ IsEnd M tx b0 q
/-- The answer. -/
def FndIs (M : List Ins) (tx : List Int) (f0 : Nat) : Option (Nat × Nat) → Prop
  | none => ∀ f q, f0 ≤ f → f ≤ tx.length → ¬ IsEnd M tx f q
  | some (b0, t0) => f0 ≤ b0 ∧ IsEnd M tx b0 t0 ∧ (∀ f q, f0 ≤ f → f < b0 → ¬ IsEnd M tx f q) ∧ ∀ q, t0 < q → ¬ IsEnd M tx b0 q
theorem isEnd_le {f q : Nat} (h : IsEnd M tx f q) : f ≤ q := by
  obtain ⟨i, h1, _⟩ := h
  exact run_le M tx h1
theorem isEnd_in {f q : Nat} (h : IsEnd M tx f q) (hf : f ≤ tx.length) : q ≤ tx.length := by
  obtain ⟨i, h1, _⟩ := h
  exact run_in M tx h1 hf
theorem Fnd.step (hG : Good M) {f0 p : Nat} {L : List (Nat × Nat)} {b : Option (Nat × Nat)} (h : Fnd M tx f0 p L b) (hfp : f0 ≤ p) (sp : Nat) :
    Fnd M tx f0 (p + 1) (cutB ((placeF M tx p (if b.isNone then L ++ [(0, p)] else L) sp).dn.foldl (upB p) b) (placeF M tx p (if b.isNone then L ++ [(0, p)] else L) sp).nx) ((placeF M tx p (if b.isNone then L ++ [(0, p)] else L) sp).dn.foldl (upB p) b) := by
  -- the threads at p, complete up to Bd
  generalize hL1 : (if b.isNone then L ++ [(0, p)] else L) = L1
  have hsr : L1.Pairwise (fun a c => a.2 ≤ c.2) := by
    rw [← hL1]
    split
    · rw [List.pairwise_append]
      refine ⟨h.srt, List.pairwise_singleton _ _, fun a ha c hc => ?_⟩
      simp only [List.mem_singleton] at hc
      subst hc
      exact Nat.le_of_lt (h.snd a ha).2.1
    · exact h.srt
  have hsd : ∀ t ∈ L1, f0 ≤ t.2 ∧ t.2 < p + 1 ∧ Ent M tx t.2 t.1 p := by
    intro t ht
    rw [← hL1] at ht
    have hL : t ∈ L → f0 ≤ t.2 ∧ t.2 < p + 1 ∧ Ent M tx t.2 t.1 p := fun ht => by
      obtain ⟨a, c, d⟩ := h.snd t ht
      exact ⟨a, by omega, d⟩
    split at ht
    · rcases List.mem_append.1 ht with h' | h'
      · exact hL h'
      · simp only [List.mem_singleton] at h'
        subst h'
        exact ⟨hfp, by simp, .inl ⟨rfl, rfl⟩⟩
    · exact hL ht
  have hcp : ∀ f, f0 ≤ f → BTo b (p + 1) f → ∀ j, Ent M tx f j p → ∃ t ∈ L1, t.1 = j ∧ t.2 ≤ f := by
    intro f hf hb j hj
    rw [← hL1]
    cases b with
    | none =>
      simp only [Option.isNone_none, if_true]
      by_cases hlt : f < p
      · obtain ⟨t, ht, h1, h2⟩ := h.cpl f hf hlt j hj
        exact ⟨t, List.mem_append_left _ ht, h1, h2⟩
      · simp only [BTo] at hb
        obtain rfl : f = p := by omega
        rcases hj with ⟨rfl, _⟩ | ⟨i', p', hp, _, hr, _⟩
        · exact ⟨(0, f), List.mem_append_right _ List.mem_cons_self, rfl, Nat.le_refl _⟩
        · have := run_le M tx hr; omega
    | some b0 =>
      obtain ⟨t, ht, h1, h2⟩ := h.cpl f hf hb j hj
      exact ⟨t, by simpa using ht, h1, h2⟩
  have P := place_any M tx p hG L1 sp hsr fun t ht => run_lt M tx hG ((hsd t ht).2.2.run M tx)
  generalize placeF M tx p L1 sp = s at P ⊢
  -- what runs come to p
  have hlab : ∀ f, f0 ≤ f → BTo b (p + 1) f → ∀ i, Run M tx f i p → ∃ x, x ≤ f ∧ Lab M tx p L1 i x := by
    intro f hf hb i hr
    obtain ⟨j, h1, h2⟩ := run_ent M tx hr
    obtain ⟨t, ht, h3, h4⟩ := hcp f hf hb j h1
    -- the least label
    have hw : ∃ x, (∃ t ∈ L1, t.2 = x ∧ EpsR M tx.length p t.1 i) := ⟨t.2, t, ht, rfl, by rw [h3]; exact h2⟩
    have hmin : ∀ n, (∃ x, x ≤ n ∧ ∃ t ∈ L1, t.2 = x ∧ EpsR M tx.length p t.1 i) → ∃ x, x ≤ n ∧ Lab M tx p L1 i x := by
      intro n
      induction n with
      | zero =>
        rintro ⟨x, hx, hx2⟩
        obtain rfl : x = 0 := by omega
        exact ⟨0, Nat.le_refl _, hx2, fun _ _ _ => Nat.zero_le _⟩
      | succ n ih =>
        rintro ⟨x, hx, hx2⟩
        by_cases hless : ∃ y, y ≤ n ∧ ∃ t ∈ L1, t.2 = y ∧ EpsR M tx.length p t.1 i
        · obtain ⟨z, hz, hz2⟩ := ih hless
          exact ⟨z, by omega, hz2⟩
        · refine ⟨x, hx, hx2, fun u hu he => ?_⟩
          by_cases hxu : x ≤ u.2
          · exact hxu
          · exact absurd ⟨u.2, by omega, u, hu, rfl, he⟩ hless
    obtain ⟨x, hx, hl⟩ := hmin t.2 ⟨t.2, Nat.le_refl _, t, ht, rfl, by rw [h3]; exact h2⟩
    exact ⟨x, by omega, hl⟩
  have hlr : ∀ i x, Lab M tx p L1 i x → f0 ≤ x ∧ x < p + 1 ∧ Run M tx x i p := by
    rintro i x ⟨⟨t, ht, rfl, h2⟩, _⟩
    obtain ⟨a, c, d⟩ := hsd t ht
    exact ⟨a, c, run_eps M tx (d.run M tx) h2⟩
  have hdn : ∀ x ∈ s.dn, f0 ≤ x ∧ x < p + 1 ∧ IsEnd M tx x p := by
    intro x hx
    obtain ⟨i, h1, h2⟩ := (P.dn x).1 hx
    obtain ⟨a, c, d⟩ := hlr i x h2
    exact ⟨a, c, i, d, h1⟩
  have hend : ∀ f, f0 ≤ f → BTo b (p + 1) f → IsEnd M tx f p → ∃ x ∈ s.dn, x ≤ f := by
    rintro f hf hb ⟨i, h1, h2⟩
    obtain ⟨x, hx, hl⟩ := hlab f hf hb i h1
    exact ⟨x, (P.dn x).2 ⟨i, h2, hl⟩, hx⟩
  have hsnd : ∀ t ∈ s.nx, f0 ≤ t.2 ∧ t.2 < p + 1 ∧ Ent M tx t.2 t.1 (p + 1) := by
    intro t ht
    obtain ⟨i, h1, h2, h3⟩ := (P.nx t).1 ht
    obtain ⟨a, c, d⟩ := hlr i _ h3
    exact ⟨a, c, .inr ⟨i, p, rfl, h1, d, h2⟩⟩
  have hcpl : ∀ f, f0 ≤ f → BTo b (p + 1) f → ∀ j, Ent M tx f j (p + 1) → f < p + 1 → ∃ t ∈ s.nx, t.1 = j ∧ t.2 ≤ f := by
    intro f hf hb j hj hfl
    rcases hj with ⟨_, h⟩ | ⟨i', p', hp, hi, hr, ht⟩
    · omega
    · obtain rfl : p = p' := by omega
      obtain ⟨x, hx, hl⟩ := hlab f hf hb i' hr
      exact ⟨(j, x), (P.nx _).2 ⟨i', hi, ht, hl⟩, rfl, hx⟩
  cases b with
  | none =>
    rcases upB_none p s.dn with ⟨h1, h2⟩ | ⟨f, h1, h2, h3⟩
    · rw [h1]
      refine ⟨P.srt, hsnd, fun g hg hb j hj => hcpl g hg hb j hj hb, fun g q hg hq he => ?_⟩
      by_cases e : q = p
      · subst e
        have hgq := isEnd_le M tx he
        obtain ⟨x, hx, _⟩ := hend g hg (show g < q + 1 by omega) he
        rw [h2] at hx
        cases hx
      · exact h.bst g q hg (by omega) he
    · rw [h1]
      obtain ⟨a1, a2, a3⟩ := hdn f h2
      refine ⟨List.Pairwise.filter _ P.srt, fun t ht => hsnd t ((List.mem_filter.1 ht).1), fun g hg hb j hj => ?_, a1, a3, by omega, fun g q hg hgf hq he => ?_, fun q h4 h5 => by omega⟩
      · simp only [BTo] at hb
        obtain ⟨t, ht, e1, e2⟩ := hcpl g hg (show g < p + 1 by omega) j hj (by omega)
        exact ⟨t, List.mem_filter.2 ⟨ht, by simp; omega⟩, e1, e2⟩
      · by_cases e : q = p
        · subst e
          obtain ⟨x, hx, hxg⟩ := hend g hg (show g < q + 1 by omega) he
          have := h3 x hx
          omega
        · exact h.bst g q hg (by omega) he
  | some bb =>
    obtain ⟨b0, t0⟩ := bb
    obtain ⟨c1, c2, c3, c4, c5⟩ := h.bst
    have hb0 := isEnd_le M tx c2
    rcases upB_some p s.dn b0 t0 with ⟨h1, h2⟩ | ⟨f, h1, h2, h3, h4⟩
    · rw [h1]
      refine ⟨List.Pairwise.filter _ P.srt, fun t ht => hsnd t ((List.mem_filter.1 ht).1), fun g hg hb j hj => ?_, c1, c2, by omega, fun g q hg hgf hq he => ?_, fun q h4 h5 he => ?_⟩
      · simp only [BTo] at hb
        obtain ⟨t, ht, e1, e2⟩ := hcpl g hg hb j hj (by omega)
        exact ⟨t, List.mem_filter.2 ⟨ht, by simp; omega⟩, e1, e2⟩
      · by_cases e : q = p
        · subst e
          obtain ⟨x, hx, hxg⟩ := hend g hg (show g ≤ b0 by omega) he
          have := h2 x hx
          omega
        · exact c4 g q hg hgf (by omega) he
      · by_cases e : q = p
        · subst e
          obtain ⟨x, hx, hxg⟩ := hend b0 c1 (Nat.le_refl _) he
          have := h2 x hx
          omega
        · exact c5 q h4 (by omega) he
    · rw [h1]
      obtain ⟨a1, a2, a3⟩ := hdn f h2
      refine ⟨List.Pairwise.filter _ P.srt, fun t ht => hsnd t ((List.mem_filter.1 ht).1), fun g hg hb j hj => ?_, a1, a3, by omega, fun g q hg hgf hq he => ?_, fun q h5 h6 => by omega⟩
      · simp only [BTo] at hb
        obtain ⟨t, ht, e1, e2⟩ := hcpl g hg (show g ≤ b0 by omega) j hj (by omega)
        exact ⟨t, List.mem_filter.2 ⟨ht, by simp; omega⟩, e1, e2⟩
      · by_cases e : q = p
        · subst e
          obtain ⟨x, hx, hxg⟩ := hend g hg (show g ≤ b0 by omega) he
          have := h4 x hx
          omega
        · exact c4 g q hg (by omega) (by omega) he
theorem findF_any (hG : Good M) (f0 : Nat) : ∀ (k p : Nat) (L : List (Nat × Nat)) (b : Option (Nat × Nat)) (sp : Nat), k + p = tx.length + 1 → f0 ≤ p → Fnd M tx f0 p L b → FndIs M tx f0 (findF M tx k p L b sp).1 := by
  intro k
  induction k with
  | zero =>
    intro p L b sp hk hfp h
    have hb := h.bst
    show FndIs M tx f0 b
    cases b with
    | none =>
      intro f q hf hfl he
      have := isEnd_in M tx he hfl
      exact hb f q hf (by omega) he
    | some bb =>
      obtain ⟨b0, t0⟩ := bb
      obtain ⟨c1, c2, c3, c4, c5⟩ := hb
      have hb0 := isEnd_le M tx c2
      refine ⟨c1, c2, fun f q hf hfb he => ?_, fun q hq he => ?_⟩
      · have := isEnd_in M tx he (by omega)
        exact c4 f q hf hfb (by omega) he
      · have := isEnd_in M tx he (by omega)
        exact c5 q hq (by omega) he
  | succ k ih =>
    intro p L b sp hk hfp h
    unfold findF
    split
    · rename_i hs
      simp only [Bool.and_eq_true, List.isEmpty_iff] at hs
      obtain ⟨hs1, rfl⟩ := hs
      obtain ⟨⟨b0, t0⟩, rfl⟩ := Option.isSome_iff_exists.1 hs1
      obtain ⟨c1, c2, c3, c4, c5⟩ := h.bst
      have hb0 := isEnd_le M tx c2
      have hno : ∀ f q, f0 ≤ f → f ≤ b0 → p ≤ q → ¬ IsEnd M tx f q := by
        rintro f q hf hfb hq ⟨i, h1, _⟩
        obtain ⟨j, hj⟩ := run_via M tx h1 p (by omega) hq
        obtain ⟨t, ht, _⟩ := h.cpl f hf hfb j hj
        cases ht
      refine ⟨c1, c2, fun f q hf hfb he => ?_, fun q hq he => ?_⟩
      · by_cases hqp : q < p
        · exact c4 f q hf hfb hqp he
        · exact hno f q hf (by omega) (by omega) he
      · by_cases hqp : q < p
        · exact c5 q hq hqp he
        · exact hno b0 q c1 (Nat.le_refl _) (by omega) he
    · exact ih _ _ _ _ (by omega) (by omega) (h.step M tx hG hfp sp)
/-- THE MATCH is at the least place that has an end, and goes to its greatest one. -/
theorem find_spec (hG : Good M) (f0 : Nat) (hf0 : f0 ≤ tx.length) : FndIs M tx f0 (findM M tx f0).1 := by
  unfold findM
  refine findF_any M tx hG f0 _ _ _ _ _ (by omega) (Nat.le_refl _) ⟨List.Pairwise.nil, fun t ht => (by cases ht), fun f hf hb j hj => ?_, fun f q hf hq he => ?_⟩
  · simp only [BTo] at hb; omega
  · have := isEnd_le M tx he
    omega
end
end Go.Proofs.YtfmcjmkdlldlhaaDoor
