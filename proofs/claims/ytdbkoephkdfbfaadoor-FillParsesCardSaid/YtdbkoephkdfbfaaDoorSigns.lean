/-
  galleylaw16.signs: a text's bytes as marks; some marks behind a list of marks.
-/
import Derived.Test.YtdbkoephkdfbfaaDoorOwnM
import Derived.Test.YtdbkoephkdfbfaaDoorApp
import Derived.Test.YtdbkoephkdfbfaaDoorFillM2
import Derived.Laws.BytesString
namespace Go.Proofs.YtdbkoephkdfbfaaDoor
open Go.RowKit

/-- append(out, marks..), just laid. -/
theorem append_mk {ops : Array Oper} {rest : List Oper} {o : Oper} {a : Act} {w : World} {Q : Exit → Act → World → Prop} (hgd : o.guard = none) (s x : Operand)
    (ho : o.op = .call { callee := .builtin .append, args := #[s, x], argTypes := #[72, 72] })
    (base : Nat) (v : Value) (xs ys : List Mk) (cs : Array Value) (n : Nat) (hcs : cs = (mkCells ys).toArray) (hn : ys.length = n) (hs : a.eval s = v) (hown : OwnM w base v xs) (hx : a.eval x = .slice (some ⟨w.heap.size, 0, none⟩) n n)
    (hsum : xs.length + n ≤ 70368744177664) (hbase : base ≤ w.heap.size)
    (h : ∀ v' w', OwnM w' base v' (xs ++ ys) → AppPost w w' base v v' → wpList Tryd.prog ops Q rest (a.put o.dst v') w') :
    wpList Tryd.prog ops Q (o :: rest) a (w.alloc (.cells cs 82)) := by
  obtain ⟨i0, hi, hz0, hz1, hz2⟩ := info_parts infoM
  subst hn
  refine append_new hgd s x 72 82 i0 (.agg #[.int .u8 0, .bool false]) 2 2 ho Tryd.underlying72 hi hz0 hz1 hz2 rfl (by decide) base v xs.length (mkCells xs) hs hown ys.length (mkCells ys) cs hcs (mkCells_len ys) (mkCells_one ys) hx (by unfold maxLen; omega) (by omega) hbase ?_
  intro v' w' h1 _ h2
  exact h v' w' (ownm_step rfl h1) h2

/-- A text's bytes. -/
def bytesL (s : ByteArray) : List Int := s.data.toList.map fun b => (b.toNat : Int)
theorem bytesL_len (s : ByteArray) : (bytesL s).length = s.size := by unfold bytesL; simp
theorem bytesL_get (s : ByteArray) (k : Nat) (h : k < s.size) : (bytesL s)[k]?.getD 0 = ((s[k]'h).toNat : Int) := by
  have h' : k < s.data.toList.length := by simpa using h
  unfold bytesL
  rw [List.getElem?_map, List.getElem?_eq_getElem h']
  rfl
theorem asMarks_len (l : List Int) : (asMarks l).length = l.length := by unfold asMarks; rw [List.length_map]

def SignsPost (w : World) (l : List Mk) (e : Ending) (w' : World) : Prop := ∃ v, e = .returned v ∧ OwnM w' w.heap.size v l ∧ Below w.heap.size w w'

set_option maxHeartbeats 1000000 in
set_option maxRecDepth 100000 in
theorem signs_any (w : World) (s : ByteArray) (hs : s.size ≤ 2147483648) : Calls Tryd.prog 90 #[.string s] w (SignsPost w (asMarks (bytesL s))) := by
  go_enter Tryd.func90, Tryd.ntmps90
  go_wp2
  go_loopw [3, 4] (fun v i wr => ∃ k : Nat, k ≤ s.size ∧ i = .int .i64 k ∧ OwnM wr w.heap.size v (asMarks ((bytesL s).take k)) ∧ Below w.heap.size w wr) (fun _ i _ => s.size - (intOf i).toNat)
  case atStart => exact ⟨0, Nat.zero_le _, rfl, OwnM.nil _ _, Below.refl _ _⟩
  case round =>
    obtain ⟨k, hk, rfl, ho, rb⟩ := hrel
    have hbs := rb.size
    have hlen : (asMarks ((bytesL s).take k)).length ≤ k := by rw [asMarks_len, List.length_take]; omega
    by_cases hlt : k < s.size
    · have hst := take_snoc (bytesL s) k (by rw [bytesL_len]; exact hlt)
      rw [bytesL_get s k hlt] at hst
      have HST : Hid (asMarks ((bytesL s).take (k + 1)) = asMarks ((bytesL s).take k) ++ [(((s[k]'hlt).toNat : Int), false)]) := by rw [hst, asMarks_append]; exact Lib.hid rfl
      clear hst
      generalize asMarks ((bytesL s).take k) = ex at ho hlen HST
      go_wp2_with (at_builtin; refine append_mk rfl (.tmp 11) (.tmp 16) rfl w.heap.size _ ex [(((s[k]'hlt).toNat : Int), false)] _ 1 rfl rfl rfl ho rfl (by omega) hbs ?_)
      intro v' w1 ho1 hA
      have rb1 := hA.bel _ _ rb (Nat.le_refl _)
      rw [← HST.out] at ho1
      clear ho hA
      go_wp2_with fail
      go_roundw
      case rel => exact ⟨k + 1, by omega, by go_num, ho1, rb1⟩
      case measure => simp [intOf]; omega
    · have e : (bytesL s).take k = bytesL s := List.take_of_length_le (by rw [bytesL_len]; omega)
      rw [e] at ho
      clear e hlen
      go_wp2_with fail
      go_ret
      exact ⟨_, rfl, ho, rb⟩

/-- Bytes as a text. -/
def strOf (l : List Int) : ByteArray := l.foldl (fun r n => r.push (UInt8.ofNat n.toNat)) ByteArray.empty
theorem run_str (w : World) (a : Option Addr) (n c : Nat) (l : List Int) (h : SB w (.slice a n c) l) : (convert 48 9 (.slice a n c)).run Tryd.prog w = .ok (.string (strOf l)) w := by
  rw [run_convert_bytes_string w 48 9 5 a n c Tryd.underlying48 Tryd.underlying5 Tryd.underlying9]
  obtain ⟨hl, _⟩ := h.len
  cases a with
  | none =>
    have := h.ofNone
    subst this
    simp only [List.length_nil] at hl
    subst hl
    rfl
  | some ad =>
    obtain ⟨_, hn⟩ := h.news
    have hlc := run_loadCells_list (P := Tryd.prog) w ad (l.map (Value.int .u8)) hn
    rw [List.length_map, hl] at hlc
    exact run_bytesToString w ad n c l hlc
end Go.Proofs.YtdbkoephkdfbfaaDoor
