/-
  Layer 3: a file that is made, appended to, synced and renamed over another one, as mathematics.
-/
import Derived.Test.YtaeiijncklmfdaaDkS
import Derived.Test.YtaeiijncklmfdaaDkL
import Derived.Test.YtaeiijncklmfdaaDkJ
namespace Go.Proofs.Ytaeiijncklmfdaa
open Go.RowKit

def kF : ByteArray := ⟨#[102, 105, 108, 101]⟩
def kN : ByteArray := ⟨#[110, 101, 119]⟩
theorem nmF : IsNm kF := isName_asc _ (asc_of _ (by decide +kernel))
theorem nmN : IsNm kN := isName_asc _ (asc_of _ (by decide +kernel))
theorem eFF : (kF == kF) = true := by decide +kernel
theorem eNN : (kN == kN) = true := by decide +kernel
theorem eFN : (kF == kN) = false := by decide +kernel
theorem eNF : (kN == kF) = false := by decide +kernel
theorem eFe : (kF == ByteArray.empty) = false := by decide +kernel
theorem eNe : (kN == ByteArray.empty) = false := by decide +kernel
theorem eee : (ByteArray.empty == ByteArray.empty) = true := by decide +kernel
theorem okF : nmOk kF = true := by decide +kernel
theorem okN : nmOk kN = true := by decide +kernel
theorem adm_ok {s : DkS} (hp : s.power = true) (l : List ByteArray) (hl : ∀ k ∈ l, nmOk k = true) : admitM s l = 0 := by
  unfold admitM
  rw [if_neg (by rw [hp]; decide), if_neg]
  rw [List.any_eq_true]
  rintro ⟨k, hk, e⟩
  rw [hl k hk] at e
  cases e
def planP (At : Int) : List (Int × Int) := if 1 ≤ At then [(At, 24)] else []
theorem inc_nat {t : Nat} (h : t ≤ 1000000000000000000) : inc64 (t : Int) = ((t + 1 : Nat) : Int) := by unfold inc64 wrap64; omega
/-- On the way: the power is there, so many tries were made. -/
structure Way (s : DkS) (At : Int) (t : Nat) : Prop where
  power : s.power = true
  tries : s.tries = (t : Int)
  plan : s.plan = planP At
  room : s.room = 16777216
theorem try_ok {s : DkS} {At : Int} {t : Nat} (h : Way s At t) (ht : t ≤ 1000000000000000000) (hne : At ≠ ((t + 1 : Nat) : Int)) : tryM s = (0, { s with tries := ((t + 1 : Nat) : Int) }) := by
  unfold tryM
  rw [h.plan, h.tries, inc_nat ht]
  unfold planP
  split
  · rfl
  · next h1 =>
    split at h1
    · simp only [List.cons.injEq, Prod.mk.injEq] at h1
      rw [if_neg (by rw [← h1.1.1]; exact hne)]
    · cases h1
theorem try_hit {s : DkS} {At : Int} {t : Nat} (h : Way s At t) (ht : t ≤ 1000000000000000000) (hne : At = ((t + 1 : Nat) : Int)) : tryM s = (24, { s with tries := ((t + 1 : Nat) : Int), plan := [], power := false }) := by
  unfold tryM
  rw [h.plan, h.tries, inc_nat ht]
  unfold planP
  rw [if_pos (by omega)]
  simp only
  rw [if_pos hne]
  rfl
def fP (x : List Int) : FileS := ⟨x, (x.length : Int), false⟩
structure StA (s : DkS) (p : Nat) (old : List Int) : Prop where
  fo : s.folder = [(kF, p)]
  du : s.durable = [(kF, p)]
  pe : s.pending = []
  fp : s.file p = fP old
  hp : p ∈ s.ps
  al : ∀ x ∈ s.ps, x = p
structure StB (s : DkS) (p q : Nat) (old acc : List Int) (sy : Int) : Prop where
  fo : s.folder = [(kF, p), (kN, q)]
  du : s.durable = [(kF, p)]
  pe : s.pending = [⟨ByteArray.empty, kN, some q⟩]
  fp : s.file p = fP old
  fq : s.file q = ⟨acc, sy, false⟩
  ne : q ≠ p
  hp : p ∈ s.ps
  hq : q ∈ s.ps
  al : ∀ x ∈ s.ps, x = p ∨ x = q
structure StD (s : DkS) (p q : Nat) (old acc : List Int) : Prop where
  fo : s.folder = [(kF, q)]
  du : s.durable = [(kF, p)]
  pe : s.pending = [⟨ByteArray.empty, kN, some q⟩, ⟨kN, kF, some q⟩]
  fp : s.file p = fP old
  fq : s.file q = fP acc
  ne : q ≠ p
  hp : p ∈ s.ps
  hq : q ∈ s.ps
  al : ∀ x ∈ s.ps, x = p ∨ x = q
structure StE (s : DkS) (p q : Nat) (old acc : List Int) : Prop where
  fo : s.folder = [(kF, q)]
  du : s.durable = [(kF, q)]
  pe : s.pending = []
  fp : s.file p = fP old
  fq : s.file q = fP acc
  ne : q ≠ p
  hq : q ∈ s.ps
  al : ∀ x ∈ s.ps, x = p ∨ x = q
theorem get1F (p : Nat) : getK [(kF, p)] kF = some p := by simp [getK, eFF]
theorem get1N (p : Nat) : getK [(kF, p)] kN = none := by simp [getK, eFN]
theorem get2F (p q : Nat) : getK [(kF, p), (kN, q)] kF = some p := by simp [getK, eFF]
theorem get2N (p q : Nat) : getK [(kF, p), (kN, q)] kN = some q := by simp [getK, eFN, eNN]
theorem applyN (p q : Nat) : applyM [(kF, p)] ⟨ByteArray.empty, kN, some q⟩ = [(kF, p), (kN, q)] := by
  simp [applyM, eee, eNe, putK, eFN]
theorem applyR (p q : Nat) : applyM [(kF, p), (kN, q)] ⟨kN, kF, some q⟩ = [(kF, q)] := by
  simp [applyM, eFe, eNe, putK, delK, eFN, eNN, eFF]

theorem make_step {s : DkS} {At : Int} {t : Nat} {p q : Nat} {old : List Int} (hw : Way s At t) (hs : StA s p old) (ht : t ≤ 1000000000000000000) (hq : q ∉ s.ps) :
    (At = ((t + 1 : Nat) : Int) → ∃ s', makeM q s kN = (24, s') ∧ s'.power = false ∧ StA s' p old) ∧
    (At ≠ ((t + 1 : Nat) : Int) → ∃ s', makeM q s kN = (0, s') ∧ Way s' At (t + 1) ∧ StB s' p q old [] 0) := by
  have ha := adm_ok hw.power [kN] (by simp [okN])
  have hqp : q ≠ p := fun e => hq (by rw [e]; exact hs.hp)
  constructor
  · intro e
    refine ⟨{ s with tries := ((t + 1 : Nat) : Int), plan := [], power := false }, ?_, rfl, ⟨hs.fo, hs.du, hs.pe, hs.fp, hs.hp, hs.al⟩⟩
    unfold makeM
    rw [ha, if_neg (by decide), try_hit hw ht e]
    simp only
    rw [if_pos (by decide)]
  · intro e
    refine ⟨changeM (addM { s with tries := ((t + 1 : Nat) : Int) } q) ⟨ByteArray.empty, kN, some q⟩, ?_, ⟨hw.power, rfl, hw.plan, hw.room⟩, ?_⟩
    · unfold makeM
      rw [ha, if_neg (by decide), try_ok hw ht e]
      simp only
      rw [if_neg (by decide), hs.fo, get1N, if_neg (by simp)]
    · refine ⟨?_, hs.du, ?_, ?_, ?_, hqp, List.mem_cons_of_mem _ hs.hp, List.mem_cons_self, fun x hx => ?_⟩
      · unfold changeM addM
        dsimp only
        rw [hs.fo, applyN]
      · show s.pending ++ _ = _
        rw [hs.pe]; rfl
      · show updF s.file q _ p = _
        unfold updF
        rw [if_neg (Ne.symm hqp)]; exact hs.fp
      · show updF s.file q _ q = _
        unfold updF
        rw [if_pos rfl]
      · rcases List.mem_cons.1 hx with rfl | hx
        · exact .inr rfl
        · exact .inl (hs.al x hx)
theorem findB2 {s : DkS} {At : Int} {t : Nat} {p q : Nat} {old acc : List Int} {sy : Int} (hw : Way s At t) (hs : StB s p q old acc sy) : findM s [] kN = (some q, 0) := by
  unfold findM
  rw [List.nil_append, adm_ok hw.power [kN] (by simp [okN]), if_neg (by decide), hs.fo, get2N]
theorem append_step {s : DkS} {At : Int} {t : Nat} {p q : Nat} {old acc b : List Int} (hw : Way s At t) (hs : StB s p q old acc 0) (ht : t ≤ 1000000000000000000) (hsz : old.length + acc.length + b.length ≤ 16777216) :
    (At = ((t + 1 : Nat) : Int) → ∃ s', appendM s kN b = (24, s') ∧ s'.power = false ∧ StB s' p q old acc 0) ∧
    (At ≠ ((t + 1 : Nat) : Int) → ∃ s', appendM s kN b = (0, s') ∧ Way s' At (t + 1) ∧ StB s' p q old (acc ++ b) 0) := by
  have hf := findB2 hw hs
  constructor
  · intro e
    refine ⟨{ s with tries := ((t + 1 : Nat) : Int), plan := [], power := false }, ?_, rfl, ⟨hs.fo, hs.du, hs.pe, hs.fp, hs.fq, hs.ne, hs.hp, hs.hq, hs.al⟩⟩
    unfold appendM
    rw [hf]
    simp only
    rw [try_hit hw ht e]
    simp only
    rw [if_pos (by decide)]
  · intro e
    have htot : totM s = ((old.length + acc.length : Nat) : Int) := by
      unfold totM
      rw [hs.fo]
      simp only [List.map_cons, List.map_nil, hs.fp, hs.fq, fP, List.sum_cons, List.sum_nil]
      unfold wrap64
      omega
    refine ⟨{ s with tries := ((t + 1 : Nat) : Int), file := updF s.file q { s.file q with bytes := (s.file q).bytes ++ b }, done := inc64 s.done }, ?_, ⟨hw.power, rfl, hw.plan, hw.room⟩, ?_⟩
    · unfold appendM
      rw [hf]
      simp only
      rw [try_ok hw ht e]
      simp only
      rw [if_neg (by decide), htot, hw.room, if_neg]
      rintro ⟨-, h2⟩
      unfold wrap64 at h2
      omega
    · refine ⟨hs.fo, hs.du, hs.pe, ?_, ?_, hs.ne, hs.hp, hs.hq, hs.al⟩
      · show updF s.file q _ p = _
        unfold updF
        rw [if_neg (Ne.symm hs.ne)]; exact hs.fp
      · show updF s.file q _ q = _
        unfold updF
        rw [if_pos rfl, hs.fq]
theorem sync_step {s : DkS} {At : Int} {t : Nat} {p q : Nat} {old acc : List Int} (hw : Way s At t) (hs : StB s p q old acc 0) (ht : t ≤ 1000000000000000000) :
    (At = ((t + 1 : Nat) : Int) → ∃ s', syncM s kN = (24, s') ∧ s'.power = false ∧ StB s' p q old acc 0) ∧
    (At ≠ ((t + 1 : Nat) : Int) → ∃ s', syncM s kN = (0, s') ∧ Way s' At (t + 1) ∧ StB s' p q old acc (acc.length : Int)) := by
  have hf := findB2 hw hs
  constructor
  · intro e
    refine ⟨{ s with tries := ((t + 1 : Nat) : Int), plan := [], power := false }, ?_, rfl, ⟨hs.fo, hs.du, hs.pe, hs.fp, hs.fq, hs.ne, hs.hp, hs.hq, hs.al⟩⟩
    unfold syncM
    rw [hf]
    simp only
    rw [try_hit hw ht e]
    simp only
    rw [if_pos (by decide)]
  · intro e
    refine ⟨{ s with tries := ((t + 1 : Nat) : Int), file := updF s.file q { s.file q with synced := ((s.file q).bytes.length : Int) }, done := inc64 s.done }, ?_, ⟨hw.power, rfl, hw.plan, hw.room⟩, ?_⟩
    · unfold syncM
      rw [hf]
      simp only
      rw [try_ok hw ht e]
      simp only
      rw [if_neg (by decide)]
    · refine ⟨hs.fo, hs.du, hs.pe, ?_, ?_, hs.ne, hs.hp, hs.hq, hs.al⟩
      · show updF s.file q _ p = _
        unfold updF
        rw [if_neg (Ne.symm hs.ne)]; exact hs.fp
      · show updF s.file q _ q = _
        unfold updF
        rw [if_pos rfl, hs.fq]
theorem rename_step {s : DkS} {At : Int} {t : Nat} {p q : Nat} {old acc : List Int} (hw : Way s At t) (hs : StB s p q old acc (acc.length : Int)) (ht : t ≤ 1000000000000000000) :
    (At = ((t + 1 : Nat) : Int) → ∃ s', renameM s kN kF = (24, s') ∧ s'.power = false ∧ StB s' p q old acc (acc.length : Int)) ∧
    (At ≠ ((t + 1 : Nat) : Int) → ∃ s', renameM s kN kF = (0, s') ∧ Way s' At (t + 1) ∧ StD s' p q old acc) := by
  have hf : findM s [kF] kN = (some q, 0) := by
    unfold findM
    rw [adm_ok hw.power ([kF] ++ [kN]) (by simp [okN, okF]), if_neg (by decide), hs.fo, get2N]
  constructor
  · intro e
    refine ⟨{ s with tries := ((t + 1 : Nat) : Int), plan := [], power := false }, ?_, rfl, ⟨hs.fo, hs.du, hs.pe, hs.fp, hs.fq, hs.ne, hs.hp, hs.hq, hs.al⟩⟩
    unfold renameM
    rw [hf]
    simp only
    rw [try_hit hw ht e]
    simp only
    rw [if_pos (by decide)]
  · intro e
    refine ⟨changeM { s with tries := ((t + 1 : Nat) : Int) } ⟨kN, kF, some q⟩, ?_, ⟨hw.power, rfl, hw.plan, hw.room⟩, ?_⟩
    · unfold renameM
      rw [hf]
      simp only
      rw [try_ok hw ht e]
      simp only
      rw [if_neg (by decide), if_neg (by intro e; have := eNF; rw [e] at this; rw [eFF] at this; cases this)]
    · refine ⟨?_, hs.du, ?_, hs.fp, hs.fq, hs.ne, hs.hp, hs.hq, hs.al⟩
      · unfold changeM
        dsimp only
        rw [hs.fo, applyR]
      · show s.pending ++ _ = _
        rw [hs.pe]; rfl
theorem dir_step {s : DkS} {At : Int} {t : Nat} {p q : Nat} {old acc : List Int} (hw : Way s At t) (hs : StD s p q old acc) (ht : t ≤ 1000000000000000000) :
    (At = ((t + 1 : Nat) : Int) → ∃ s', syncDirM s = (24, s') ∧ s'.power = false ∧ StD s' p q old acc) ∧
    (At ≠ ((t + 1 : Nat) : Int) → ∃ s', syncDirM s = (0, s') ∧ Way s' At (t + 1) ∧ StE s' p q old acc) := by
  have ha := adm_ok hw.power [] (by simp)
  constructor
  · intro e
    refine ⟨{ s with tries := ((t + 1 : Nat) : Int), plan := [], power := false }, ?_, rfl, ⟨hs.fo, hs.du, hs.pe, hs.fp, hs.fq, hs.ne, hs.hp, hs.hq, hs.al⟩⟩
    unfold syncDirM
    rw [ha, if_neg (by decide), try_hit hw ht e]
    simp only
    rw [if_pos (by decide)]
  · intro e
    refine ⟨{ s with tries := ((t + 1 : Nat) : Int), durable := s.folder, pending := [], done := inc64 s.done }, ?_, ⟨hw.power, rfl, hw.plan, hw.room⟩, ⟨hs.fo, hs.fo, rfl, hs.fp, hs.fq, hs.ne, hs.hq, hs.al⟩⟩
    unfold syncDirM
    rw [ha, if_neg (by decide), try_ok hw ht e]
    simp only
    rw [if_neg (by decide)]
end Go.Proofs.Ytaeiijncklmfdaa
