/-
  Plain mathematics of layer 28: options, how a line is read and written.
-/
import Derived.Test.YtgepjjpcokbpjaaDoorStr
import Derived.Laws.RangeAny
import Derived.Lib.DecodeN
import Derived.Lib.Small
namespace Go.Proofs.YtgepjjpcokbpjaaDoor

structure Opt where
  q : Bool
  e : Bool
  a : Bool
  i : Bool
  parts : List Prt
  files : List Str
def opt0 : Opt := ⟨false, false, false, false, [], []⟩
/-- What New wants of them: a line says them. -/
def printable (o : Opt) : Bool := !(o.i && !o.a || o.parts.isEmpty)
def str (l : List UInt8) : Str := ⟨l.toArray⟩
def flagW (b : Bool) (l : List UInt8) : List Str := if b then [str l] else []
def partW (p : Prt) : List Str := [if p.1 then str [45, 102] else str [45, 101], p.2]
def printL (o : Opt) : List Str :=
  flagW o.q [45, 110] ++ flagW o.e [45, 69] ++ flagW (o.a && !o.i) [45, 115] ++ flagW o.i [45, 105] ++ o.parts.flatMap partW ++ [str [45, 45]] ++ o.files

/-- What the letters of a word do. -/
inductive LRes where
  | done (o : Opt)
  | arg (o : Opt) (f : Bool) (pos : Nat)
  | bad (r : Nat) (pos : Nat)
/-- s: the word behind its dash. -/
def letF (s : Str) : Nat → Nat → Opt → LRes
  | 0, _, o => .done o
  | fuel + 1, pos, o =>
    if pos < s.size then
      if (Utf8.decode s pos).1 = 110 then letF s fuel (pos + (Utf8.decode s pos).2) { o with q := true }
      else if (Utf8.decode s pos).1 = 69 then letF s fuel (pos + (Utf8.decode s pos).2) { o with e := true }
      else if (Utf8.decode s pos).1 = 105 then letF s fuel (pos + (Utf8.decode s pos).2) { o with i := true, a := true }
      else if (Utf8.decode s pos).1 = 115 then letF s fuel (pos + (Utf8.decode s pos).2) { o with a := true }
      else if (Utf8.decode s pos).1 = 101 ∨ (Utf8.decode s pos).1 = 102 then .arg o (decide ((Utf8.decode s pos).1 = 102)) pos
      else .bad (Utf8.decode s pos).1 pos
    else .done o
def hasPre (s p : Str) : Bool := decide (p.size ≤ s.size ∧ s.extract 0 p.size = p)
/-- What letterAt answers. -/
def letOf (t : Str) (r : Int) : Str := if r = 65533 ∧ hasPre t (str [239, 191, 189]) = false then t.extract 0 1 else t.extract 0 (Lib.runeLen r).toNat
def isOpt (w : Str) : Bool := decide (1 < w.size ∧ w.get! 0 = 45)
def push (o : Opt) (f : Bool) (t : Str) : Opt := { o with parts := o.parts ++ [(f, t)] }
/-- The options, the error, what it is about. -/
abbrev PRes := Opt × Int × Str
def finish (l : List Str) (o : Opt) : PRes :=
  if o.parts = [] then
    match l with
    | [] => (opt0, 91, ByteArray.empty)
    | x :: r => ({ o with parts := [(false, x)], files := r }, 0, ByteArray.empty)
  else ({ o with files := l }, 0, ByteArray.empty)
def tailW (w : Str) : Str := w.extract 1 w.size
def parF : List Str → Opt → PRes
  | [], o => finish [] o
  | w :: rest, o =>
    if isOpt w = true then
      if w = str [45, 45] then finish rest o
      else match letF (tailW w) (tailW w).size 0 o with
        | .done o' => parF rest o'
        | .arg o' f pos =>
          if w.extract (pos + 2) w.size = ByteArray.empty then
            match rest with
            | [] => (opt0, 91, if f then str [102] else str [101])
            | t :: rest' => parF rest' (push o' f t)
          else parF rest (push o' f (w.extract (pos + 2) w.size))
        | .bad r pos => (opt0, 90, letOf (w.extract (pos + 1) w.size) r)
    else finish (w :: rest) o
theorem par_nil (o : Opt) : parF [] o = finish [] o := by rw [parF]
theorem par_not (w : Str) (rest : List Str) (o : Opt) (h : isOpt w = false) : parF (w :: rest) o = finish (w :: rest) o := by rw [parF, if_neg (by simp [h])]
theorem par_end (rest : List Str) (o : Opt) : parF (str [45, 45] :: rest) o = finish rest o := by rw [parF, if_pos (by decide), if_pos rfl]
theorem par_done (w : Str) (rest : List Str) (o o' : Opt) (h : isOpt w = true) (h2 : w ≠ str [45, 45]) (hl : letF (tailW w) (tailW w).size 0 o = .done o') : parF (w :: rest) o = parF rest o' := by
  rw [parF, if_pos h, if_neg h2, hl]
theorem par_arg (w : Str) (rest : List Str) (o o' : Opt) (f : Bool) (pos : Nat) (h : isOpt w = true) (h2 : w ≠ str [45, 45]) (hl : letF (tailW w) (tailW w).size 0 o = .arg o' f pos) (ht : w.extract (pos + 2) w.size ≠ ByteArray.empty) : parF (w :: rest) o = parF rest (push o' f (w.extract (pos + 2) w.size)) := by
  rw [parF, if_pos h, if_neg h2, hl]
  simp only
  rw [if_neg ht]
theorem par_need (w t : Str) (rest : List Str) (o o' : Opt) (f : Bool) (pos : Nat) (h : isOpt w = true) (h2 : w ≠ str [45, 45]) (hl : letF (tailW w) (tailW w).size 0 o = .arg o' f pos) (ht : w.extract (pos + 2) w.size = ByteArray.empty) : parF (w :: t :: rest) o = parF rest (push o' f t) := by
  rw [parF, if_pos h, if_neg h2, hl]
  simp only
  rw [if_pos ht]
theorem par_use (w : Str) (o o' : Opt) (f : Bool) (pos : Nat) (h : isOpt w = true) (h2 : w ≠ str [45, 45]) (hl : letF (tailW w) (tailW w).size 0 o = .arg o' f pos) (ht : w.extract (pos + 2) w.size = ByteArray.empty) : parF [w] o = (opt0, 91, if f then str [102] else str [101]) := by
  rw [parF, if_pos h, if_neg h2, hl]
  simp only
  rw [if_pos ht]
theorem par_bad (w : Str) (rest : List Str) (o : Opt) (r pos : Nat) (h : isOpt w = true) (h2 : w ≠ str [45, 45]) (hl : letF (tailW w) (tailW w).size 0 o = .bad r pos) : parF (w :: rest) o = (opt0, 90, letOf (w.extract (pos + 1) w.size) r) := by
  rw [parF, if_pos h, if_neg h2, hl]
theorem fin_none (o : Opt) (h : o.parts = []) : finish [] o = (opt0, 91, ByteArray.empty) := by unfold finish; rw [if_pos h]
theorem fin_one (x : Str) (r : List Str) (o : Opt) (h : o.parts = []) : finish (x :: r) o = ({ o with parts := [(false, x)], files := r }, 0, ByteArray.empty) := by unfold finish; rw [if_pos h]
theorem fin_many (l : List Str) (o : Opt) (h : o.parts ≠ []) : finish l o = ({ o with files := l }, 0, ByteArray.empty) := by unfold finish; rw [if_neg h]
theorem tail_size (w : Str) (h : 1 < w.size) : (tailW w).size = w.size - 1 := by unfold tailW; rw [ByteArray.size_extract]; omega
set_option maxRecDepth 100000 in
set_option maxHeartbeats 2000000 in
theorem dec_fact (s : Str) (pos : Nat) (h : pos < s.size) : 1 ≤ (Utf8.decode s pos).2 ∧ pos + (Utf8.decode s pos).2 ≤ s.size ∧ (Utf8.decode s pos = (65533, 1) ∨ Lib.runeLen (Utf8.decode s pos).1 = (Utf8.decode s pos).2) := by
  rw [Lib.decode_at]
  have h0 := (s.get! pos).toNat_lt
  have h1 := (s.get! (pos + 1)).toNat_lt
  have h2 := (s.get! (pos + 2)).toNat_lt
  have h3 := (s.get! (pos + 3)).toNat_lt
  generalize (s.get! pos).toNat = b0 at *
  generalize (s.get! (pos + 1)).toNat = b1 at *
  generalize (s.get! (pos + 2)).toNat = b2 at *
  generalize (s.get! (pos + 3)).toNat = b3 at *
  obtain ⟨n, hn⟩ : ∃ n, s.size - pos = n := ⟨_, rfl⟩
  rw [hn]
  have hs : s.size = pos + n := by omega
  rw [hs] at h ⊢
  clear hs hn
  unfold Lib.decodeN
  split
  · refine ⟨Nat.le_refl _, by simp only; omega, .inr ?_⟩
    unfold Lib.runeLen
    rw [if_neg (by simp only; omega), if_pos (by simp only; omega)]
    rfl
  · split
    · split
      · refine ⟨by simp only; omega, by simp only; omega, .inr ?_⟩
        unfold Lib.runeLen
        rw [if_neg (by simp only; omega), if_neg (by simp only; omega), if_pos (by simp only; omega)]
        rfl
      · exact ⟨Nat.le_refl _, by simp only; omega, .inl rfl⟩
    · split
      · split
        · refine ⟨by simp only; omega, by simp only; omega, .inr ?_⟩
          unfold Lib.runeLen
          rw [if_neg (by simp only; omega), if_neg (by simp only; omega), if_neg (by simp only; omega), if_neg (by simp only; omega), if_pos (by simp only; omega)]
          rfl
        · exact ⟨Nat.le_refl _, by simp only; omega, .inl rfl⟩
      · split
        · split
          · refine ⟨by simp only; omega, by simp only; omega, .inr ?_⟩
            unfold Lib.runeLen
            rw [if_neg (by simp only; omega), if_neg (by simp only; omega), if_neg (by simp only; omega), if_neg (by simp only; omega), if_neg (by simp only; omega), if_pos (by simp only; omega)]
            rfl
          · exact ⟨Nat.le_refl _, by simp only; omega, .inl rfl⟩
        · exact ⟨Nat.le_refl _, by simp only; omega, .inl rfl⟩
end Go.Proofs.YtgepjjpcokbpjaaDoor
