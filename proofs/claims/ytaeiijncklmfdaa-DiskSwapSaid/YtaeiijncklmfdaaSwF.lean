/-
  What is left of the swap where the power comes back.
-/
import Derived.Test.YtaeiijncklmfdaaSwS
namespace Go.Proofs.Ytaeiijncklmfdaa
open Go.RowKit

theorem cutF_fP (b : List Int) (keep : List Int) (i : Nat) : cutF (fP b) (keepN keep (fP b) i) = fP b := by
  have h : keepN keep (fP b) i = 0 := by
    unfold keepN
    split
    · have : (fP b).bytes.length - (fP b).synced.toNat = 0 := by simp [fP]
      rw [this]
      exact Nat.le_zero.1 (clampN_le _ _)
    · rfl
  rw [h]
  unfold cutF fP
  simp
theorem cut_keep (F : List (ByteArray × Nat)) (keep : List Int) (x : Nat) (b : List Int) : ∀ (l : List ByteArray) (i : Nat) (fl : Nat → FileS), fl x = fP b → (cutM F keep l i fl) x = fP b
  | [], _, _, h => h
  | k :: l, i, fl, h => by
    unfold cutM
    cases hg : getK F k with
    | none => exact cut_keep F keep x b l (i + 1) fl h
    | some p =>
      refine cut_keep F keep x b l (i + 1) _ ?_
      unfold updF
      split
      · next e => rw [← e, h, cutF_fP]
      · exact h
/-- What a name has, and what names there are. -/
def Left (s : DkS) (p q : Nat) (old F b : List Int) : Prop :=
  readM s kF = (some b, 0) ∧ ((s.folder = [(kF, p)] ∧ b = old) ∨ (s.folder = [(kF, p), (kN, q)] ∧ b = old) ∨ (s.folder = [(kF, q)] ∧ b = F))
theorem read_left {s : DkS} {x : Nat} {b : List Int} (hp : s.power = true) (hg : getK s.folder kF = some x) (hf : s.file x = fP b) : readM s kF = (some b, 0) := by
  unfold readM findM
  rw [List.nil_append, adm_ok hp [kF] (by simp [okF]), if_neg (by decide), hg]
  simp [hf, fP]
theorem clamp1 (dir : Int) : clampN dir 1 = 0 ∨ clampN dir 1 = 1 := by have := clampN_le dir 1; omega
theorem clamp2 (dir : Int) : clampN dir 2 = 0 ∨ clampN dir 2 = 1 ∨ clampN dir 2 = 2 := by have := clampN_le dir 2; omega
theorem applied_all {s : DkS} {p q : Nat} {old F : List Int} {last al : Bool} (h : SwSt s p q old F last al) (dir : Int) : (appliedM s dir = [(kF, p)] ∨ appliedM s dir = [(kF, p), (kN, q)] ∨ appliedM s dir = [(kF, q)]) := by
  unfold appliedM
  rcases h with ⟨h, -⟩ | ⟨acc, sy, h, -⟩ | ⟨h, -⟩ | ⟨h, -⟩
  · rw [h.pe, h.du]; exact .inl (by simp)
  · rw [h.pe, h.du]
    rcases clamp1 dir with e | e
    · exact .inl (by simp [e])
    · refine .inr (.inl ?_)
      simp only [List.length_cons, List.length_nil, e, List.take_succ_cons, List.take_zero, List.foldl_cons, List.foldl_nil]
      exact applyN p q
  · rw [h.pe, h.du]
    rcases clamp2 dir with e | e | e
    · exact .inl (by simp [e])
    · refine .inr (.inl ?_)
      simp only [List.length_cons, List.length_nil, e, List.take_succ_cons, List.take_zero, List.foldl_cons, List.foldl_nil]
      exact applyN p q
    · refine .inr (.inr ?_)
      simp only [List.length_cons, List.length_nil, e, List.take_succ_cons, List.take_zero, List.foldl_cons, List.foldl_nil]
      rw [applyN]
      exact applyR p q
  · rw [h.pe, h.du]; exact .inr (.inr (by simp))
theorem left_all {s : DkS} {p q : Nat} {old F : List Int} {last al : Bool} (h : SwSt s p q old F last al) (dir : Int) (keep : List Int) (l : List ByteArray) : ∃ b, Left (startM s dir keep l) p q old F b ∧ (al = true → last = true → b = F ∧ (startM s dir keep l).folder = [(kF, q)]) := by
  have key : ∀ (x : Nat) (b : List Int), s.file x = fP b → (startM s dir keep l).file x = fP b := fun x b hb => cut_keep _ _ _ _ _ _ _ hb
  have hap := applied_all h dir
  have hfo : (startM s dir keep l).folder = appliedM s dir := rfl
  rcases h with ⟨h, ha⟩ | ⟨acc, sy, h, -, -, ha⟩ | ⟨h, ha⟩ | ⟨h, ha⟩
  · have e : appliedM s dir = [(kF, p)] := by unfold appliedM; rw [h.pe, h.du]; simp
    exact ⟨old, ⟨read_left rfl (by rw [hfo, e, get1F]) (key p old h.fp), .inl ⟨by rw [hfo, e], rfl⟩⟩, fun h1 => by rw [ha] at h1; cases h1⟩
  · rcases hap with e | e | e
    · exact ⟨old, ⟨read_left rfl (by rw [hfo, e, get1F]) (key p old h.fp), .inl ⟨by rw [hfo, e], rfl⟩⟩, fun h1 => by rw [ha] at h1; cases h1⟩
    · exact ⟨old, ⟨read_left rfl (by rw [hfo, e, get2F]) (key p old h.fp), .inr (.inl ⟨by rw [hfo, e], rfl⟩)⟩, fun h1 => by rw [ha] at h1; cases h1⟩
    · exfalso
      unfold appliedM at e
      rw [h.pe, h.du] at e
      rcases clamp1 dir with e2 | e2
      · simp [e2] at e
        exact h.ne e.symm
      · simp only [List.length_cons, List.length_nil, e2, List.take_succ_cons, List.take_zero, List.foldl_cons, List.foldl_nil] at e
        rw [applyN] at e
        simp at e
  · rcases hap with e | e | e
    · exact ⟨old, ⟨read_left rfl (by rw [hfo, e, get1F]) (key p old h.fp), .inl ⟨by rw [hfo, e], rfl⟩⟩, fun h1 h2 => by rw [ha h1] at h2; cases h2⟩
    · exact ⟨old, ⟨read_left rfl (by rw [hfo, e, get2F]) (key p old h.fp), .inr (.inl ⟨by rw [hfo, e], rfl⟩)⟩, fun h1 h2 => by rw [ha h1] at h2; cases h2⟩
    · exact ⟨F, ⟨read_left rfl (by rw [hfo, e, get1F]) (key q F h.fq), .inr (.inr ⟨by rw [hfo, e], rfl⟩)⟩, fun _ _ => ⟨rfl, by rw [hfo, e]⟩⟩
  · have e : appliedM s dir = [(kF, q)] := by unfold appliedM; rw [h.pe, h.du]; simp
    exact ⟨F, ⟨read_left rfl (by rw [hfo, e, get1F]) (key q F h.fq), .inr (.inr ⟨by rw [hfo, e], rfl⟩)⟩, fun _ _ => ⟨rfl, by rw [hfo, e]⟩⟩
theorem names_one {l : List ByteArray} (h : l.Perm [kF]) : l = [kF] := List.perm_singleton.1 h
theorem names_two {l : List ByteArray} (h : l.Perm [kF, kN]) (hs : (l.map fun k => k.data.toList).Pairwise (· ≤ ·)) : l = [kF, kN] := by
  match l, h.length_eq with
  | [a, b], _ =>
    have ha : a = kF ∨ a = kN := by simpa using h.subset (List.mem_cons_self (a := a))
    rcases ha with rfl | rfl
    · have := List.perm_singleton.1 ((List.perm_cons _).1 h)
      rw [this]
    · have h2 : [kN, b].Perm [kN, kF] := h.trans (List.Perm.swap _ _ _)
      have := List.perm_singleton.1 ((List.perm_cons _).1 h2)
      simp only [List.cons.injEq, and_true] at this
      subst this
      exfalso
      simp only [List.map_cons, List.map_nil, List.pairwise_cons] at hs
      have := hs.1 kF.data.toList (by simp)
      exact absurd this (by decide +kernel)
theorem sw_syn {s : DkS} {p q : Nat} {old F : List Int} {last al : Bool} (h : SwSt s p q old F last al) : SynOk s := by
  rcases h with ⟨h, ha⟩ | ⟨acc, sy, h, h1, h2, ha⟩ | ⟨h, ha⟩ | ⟨h, ha⟩
  · intro x hx; rw [h.al x hx, h.fp]; simp [fP]
  · intro x hx
    rcases h.al x hx with rfl | rfl
    · rw [h.fp]; simp [fP]
    · rw [h.fq]; exact ⟨h1, h2⟩
  · intro x hx
    rcases h.al x hx with rfl | rfl
    · rw [h.fp]; simp [fP]
    · rw [h.fq]; simp [fP]
  · intro x hx
    rcases h.al x hx with rfl | rfl
    · rw [h.fp]; simp [fP]
    · rw [h.fq]; simp [fP]
theorem sw_pend {s : DkS} {p q : Nat} {old F : List Int} {last al : Bool} (h : SwSt s p q old F last al) : (∀ x ∈ s.pending, x.to ≠ ByteArray.empty → x.file ≠ none) ∧ s.pending.length ≤ 1000000000000 := by
  rcases h with ⟨h, ha⟩ | ⟨acc, sy, h, h1, h2, ha⟩ | ⟨h, ha⟩ | ⟨h, ha⟩ <;> rw [h.pe] <;> simp
theorem sw_off {s : DkS} {p q : Nat} {old F : List Int} {last al : Bool} (h : SwSt s p q old F last al) : SwSt { s with power := false } p q old F last al := by
  rcases h with ⟨h, ha⟩ | ⟨acc, sy, h, h1, h2, ha⟩ | ⟨h, ha⟩ | ⟨h, ha⟩
  · exact .inl ⟨⟨h.fo, h.du, h.pe, h.fp, h.hp, h.al⟩, ha⟩
  · exact .inr (.inl ⟨acc, sy, ⟨h.fo, h.du, h.pe, h.fp, h.fq, h.ne, h.hp, h.hq, h.al⟩, h1, h2, ha⟩)
  · exact .inr (.inr (.inl ⟨⟨h.fo, h.du, h.pe, h.fp, h.fq, h.ne, h.hp, h.hq, h.al⟩, ha⟩))
  · exact .inr (.inr (.inr ⟨⟨h.fo, h.du, h.pe, h.fp, h.fq, h.ne, h.hq, h.al⟩, ha⟩))
end Go.Proofs.Ytaeiijncklmfdaa
