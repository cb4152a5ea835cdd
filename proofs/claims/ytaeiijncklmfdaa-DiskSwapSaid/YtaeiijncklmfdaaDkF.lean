/-
  Layer 3: the file of a name; how many bytes all files have.
-/
import Derived.Test.YtaeiijncklmfdaaDkH
import Derived.Maps.RangeRun
namespace Go.Proofs.Ytaeiijncklmfdaa
open Go.RowKit

def findM (s : DkS) (l : List ByteArray) (k : ByteArray) : Option Nat × Int :=
  if admitM s (l ++ [k]) ≠ 0 then (none, admitM s (l ++ [k])) else match getK s.folder k with
    | none => (none, 21)
    | some p => (some p, 0)
section
variable {w0 w : World} {base d : Nat} {s : DkS} {c : Nat → Nat} {fo du : Nat} {pe pl : Value} {bv : Nat → Value}
theorem eqPtF (p : Nat) (w : World) : (binOp .eql 97 (.pointer (some ⟨p, 0, none⟩)) (.pointer none)).run Try.prog w = .ok (.bool false) w := by kernel_rfl
theorem eqPtN (w : World) : (binOp .eql 97 (.pointer none) (.pointer none)).run Try.prog w = .ok (.bool true) w := by kernel_rfl
set_option maxRecDepth 100000 in
theorem find_yes (h : DkAt w0 base d s c fo du pe pl bv) (hb0 : Below w0.heap.size w0 w) (k : ByteArray) (ov : Value) (lo : List ByteArray) (ho : OwnT w w0.heap.size ov lo) (hl : lo.length ≤ 4) (hn : ∀ x ∈ lo ++ [k], IsNm x) :
    Calls Try.prog 64 #[ptD d, .string k, ov] w fun e w' => e = .returned (.tuple #[ptV (findM s lo k).1, .int .i64 (findM s lo k).2]) ∧ Below w0.heap.size w0 w' := by
  have HL := Lib.hid hl
  have HN := Lib.hid hn
  clear hl hn
  have hF : findM s lo k = if admitM s (lo ++ [k]) ≠ 0 then (none, admitM s (lo ++ [k])) else match getK s.folder k with | none => (none, 21) | some p => (some p, 0) := rfl
  unfold ptD
  obtain ⟨E, hE⟩ : ∃ E, admitM s (lo ++ [k]) = E := ⟨_, rfl⟩
  rw [hE] at hF
  obtain ⟨F, X, hFX⟩ : ∃ F X, findM s lo k = (F, X) := ⟨_, _, rfl⟩
  rw [hFX] at hF ⊢
  have HF := Lib.hid hF
  clear hF hFX
  go_enter Try.func64, Try.ntmps64
  go_wp2_with (at_builtin; refine append_tn rfl (.tmp 11) (.tmp 13) rfl w0.heap.size ov lo [k] _ 1 rfl rfl rfl ho _ rfl rfl (by have := HL.out; omega) hb0.size ?_)
  intro v' w1 ho' hP
  have hB : Below w0.heap.size w0 w1 := hP.bel _ _ hb0 (Nat.le_refl _)
  have h1 := h.below hB
  have ht : TS w1 v' (lo ++ [k]) := ho'.ts (by simp; have := HL.out; omega)
  have hA := admit_yes w1 h1 v' _ ht HN.out
  rw [hE] at hA
  unfold ptD at hA
  have HA := Lib.hid hA
  clear hP ho' ho hb0 hA ht h1
  go_wp2_with fail
  refine HA.out.mono ?_
  rintro e w2 ⟨rfl, hb⟩
  have hB2 := hB.trans (hb.mono hB.size)
  have h2 := h.below hB2
  obtain ⟨-, -, c2, -⟩ := h2.cell
  have hlk := lookupK_run w2 fo s.folder h2.fold k
  have HB2 := Lib.hid hB2
  clear hb hB h h2 HA hB2
  by_cases he : E = 0
  · subst he
    cases hg : getK s.folder k with
    | none =>
      have hf := HF.out
      rw [if_neg (by simp), hg] at hf
      simp only [Prod.mk.injEq] at hf
      obtain ⟨rfl, rfl⟩ := hf
      rw [hg] at hlk
      unfold ptV at hlk
      have heq := eqPtN
      go_wp2_with fail
      go_ret2
      exact ⟨rfl, HB2.out⟩
    | some p =>
      have hf := HF.out
      rw [if_neg (by simp), hg] at hf
      simp only [Prod.mk.injEq] at hf
      obtain ⟨rfl, rfl⟩ := hf
      rw [hg] at hlk
      unfold ptV at hlk
      have heq := eqPtF p
      go_wp2_with fail
      go_ret2
      exact ⟨rfl, HB2.out⟩
  · have hf := HF.out
    rw [if_pos he] at hf
    simp only [Prod.mk.injEq] at hf
    obtain ⟨rfl, rfl⟩ := hf
    have hd := bne_iff_ne.2 he
    clear hlk
    go_wp2_with fail
    go_ret2
    exact ⟨rfl, HB2.out⟩

/-! ### How many bytes -/
def lenE (bytes : Nat → List Int) (e : MapEntry) : Int := match e.val with
  | .pointer (some a) => ((bytes a.block).length : Int)
  | _ => 0
def seenLen (f : MapEntry → Int) : List MapEntry → Array Nat → Int
  | [], _ => 0
  | x :: l, seen => (if seen.contains x.born then f x else 0) + seenLen f l seen
theorem seenLen_other (f : MapEntry → Int) (seen : Array Nat) (b : Nat) : ∀ (es : List MapEntry), b ∉ es.map (·.born) → seenLen f es (seen.push b) = seenLen f es seen
  | [], _ => rfl
  | x :: l, h => by
    have hx : (x.born == b) = false := by
      cases hc : x.born == b with
      | false => rfl
      | true => exact absurd (List.mem_cons.2 (Or.inl (beq_iff_eq.1 hc).symm)) h
    have ih := seenLen_other f seen b l (fun e => h (List.mem_cons.2 (Or.inr e)))
    simp only [seenLen, contains_push, hx, Bool.or_false, ih]
theorem seenLen_push (f : MapEntry → Int) (seen : Array Nat) (e : MapEntry) (hs : seen.contains e.born = false) : ∀ (es : List MapEntry), (es.map (·.born)).Nodup → e ∈ es → seenLen f es (seen.push e.born) = seenLen f es seen + f e
  | x :: l, hn, he => by
    have hn' : x.born ∉ l.map (·.born) ∧ (l.map (·.born)).Nodup := List.nodup_cons.1 hn
    rcases List.mem_cons.1 he with rfl | h
    · simp only [seenLen, contains_push, hs, beq_self_eq_true, Bool.or_true, if_true, Bool.false_eq_true, if_false, seenLen_other f seen e.born l hn'.1]
      omega
    · have hx : (x.born == e.born) = false := by
        cases hc : x.born == e.born with
        | false => rfl
        | true => exact absurd (by rw [beq_iff_eq.1 hc]; exact List.mem_map.2 ⟨e, h, rfl⟩) hn'.1
      simp only [seenLen, contains_push, hx, Bool.or_false, seenLen_push f seen e hs l hn'.2 h]
      omega
theorem seenLen_full (f : MapEntry → Int) (seen : Array Nat) : ∀ (es : List MapEntry), (∀ x ∈ es, seen.contains x.born = true) → seenLen f es seen = (es.map f).sum
  | [], _ => rfl
  | x :: l, h => by
    simp only [seenLen, h x (List.mem_cons.2 (Or.inl rfl)), if_true, List.map_cons, List.sum_cons, seenLen_full f seen l (fun y hy => h y (List.mem_cons.2 (Or.inr hy)))]
theorem seenLen_none (f : MapEntry → Int) : ∀ (es : List MapEntry), seenLen f es #[] = 0
  | [] => rfl
  | x :: l => by
    have : (#[] : Array Nat).contains x.born = false := by simp
    simp only [seenLen, this, Bool.false_eq_true, if_false, seenLen_none f l]
    rfl
theorem below_setBlock {w w1 : World} {r : Nat} (o : Obj) {B : Nat} (h : Below B w w1) (hr : B ≤ r) : Below B w (Go.ChangeMaps.setBlock w1 r o) :=
  ⟨h.os, h.tape, h.output, by simpa [Go.ChangeMaps.setBlock] using h.size, fun k hk => by
    have : (Go.ChangeMaps.setBlock w1 r o).heap[k]? = w1.heap[k]? := by simp [Go.ChangeMaps.setBlock, show r ≠ k by omega]
    rw [this]; exact h.block k hk⟩
theorem wrap64_add (a b : Int) : wrap64 (wrap64 a + b) = wrap64 (a + b) := by unfold wrap64; omega
def totM (s : DkS) : Int := wrap64 ((s.folder.map fun x => ((s.file x.2).bytes.length : Int)).sum)
set_option maxRecDepth 100000 in
set_option maxHeartbeats 1000000 in
theorem total_any (h : DkAt w base d s c fo du pe pl bv) : Calls Try.prog 63 #[ptD d] w fun e w' => e = .returned (.int .i64 (totM s)) ∧ Below w.heap.size w w' := by
  obtain ⟨-, -, c2, -⟩ := h.cell
  obtain ⟨es, clock, hb, hst, he⟩ := h.fold
  have hrg := run_range_map (P := Try.prog) w 66 9 97 fo es clock udM hb
  have hsum : (es.toList.map (lenE fun p => (s.file p).bytes)).sum = (s.folder.map fun x => ((s.file x.2).bytes.length : Int)).sum := by
    congr 1
    have : es.toList.map (lenE fun p => (s.file p).bytes) = (es.toList.map kvE).map fun y => (match y.2 with | .pointer (some a) => ((s.file a.block).bytes.length : Int) | _ => 0) := by rw [List.map_map]; rfl
    rw [this, he, List.map_map]
    rfl
  have hent : ∀ e ∈ es.toList, ∃ k p, e.key = .string k ∧ e.val = .pointer (some ⟨p, 0, none⟩) ∧ p ∈ s.ps := fun e hm => by
    have h1 : kvE e ∈ s.folder.map kvV := by rw [← he]; exact List.mem_map.2 ⟨e, hm, rfl⟩
    obtain ⟨y, hy, e1⟩ := List.mem_map.1 h1
    exact ⟨y.1, y.2, (congrArg Prod.fst e1).symm, (congrArg Prod.snd e1).symm, h.fin y hy⟩
  unfold ptD
  go_enter Try.func63, Try.ntmps63
  go_wp2
  generalize hf : lenE (fun p => (s.file p).bytes) = f at hsum
  go_loopw [3] (fun n w' => ∃ seen : Array Nat, Below w.heap.size w w' ∧ w'.heap[w.heap.size]? = some (.mapIter (some fo) clock seen clock) ∧ n = .int .i64 (wrap64 (seenLen f es.toList seen))) (fun _ w' => (leftOf es (w'.iterSeen w.heap.size)).size)
  case atStart => exact ⟨#[], (Below.refl _ w).alloc (Nat.le_refl _) _, heap_alloc_new w _, by rw [seenLen_none, show wrap64 0 = 0 by unfold wrap64; omega]⟩
  case round =>
    obtain ⟨seen, hB, hit, rfl⟩ := hrel
    have hfl : fo < w.heap.size := (Array.getElem?_eq_some_iff.1 hb).1
    have hb1 : wr.heap[fo]? = some (.map es clock) := (hB.block fo hfl).trans hb
    have law := Go.run_next_at (P := Try.prog) wr 0 w.heap.size fo clock clock seen es clock hit hb1 hst.1 (Nat.le_refl _)
    rcases law with ⟨h0, hrun⟩ | ⟨e, he1, w2, hal2, hrun⟩
    · have hnx : ∀ ty, (Instr.next (.pointer (some ⟨w.heap.size, 0, none⟩)) false ty).run Try.prog wr = _ := fun _ => hrun
      clear hrun
      go_wp2
      go_ret
      rw [seenLen_full f seen es.toList (all_seen es seen h0), hsum]
      exact ⟨rfl, hB⟩
    · obtain ⟨k, p, hk, hval, hp⟩ := hent e (mem_left he1).1
      rw [hk, hval] at hrun
      have hB2 : Below w.heap.size w w2 := by rcases hal2 with rfl | rfl; exact hB; exact hB.drew
      have hB3 := below_setBlock (.mapIter (some fo) clock (seen.push e.born) clock) hB2 (Nat.le_refl _)
      have hit3 : (Go.ChangeMaps.setBlock w2 w.heap.size (.mapIter (some fo) clock (seen.push e.born) clock)).heap[w.heap.size]? = some (.mapIter (some fo) clock (seen.push e.born) clock) := by
        have : w.heap.size < w2.heap.size := by
          have h1 : w.heap.size < wr.heap.size := (Array.getElem?_eq_some_iff.1 hit).1
          rcases hal2 with rfl | rfl <;> exact h1
        simp [Go.ChangeMaps.setBlock, this]
      generalize Go.ChangeMaps.setBlock w2 w.heap.size (.mapIter (some fo) clock (seen.push e.born) clock) = w3 at hrun hB3 hit3
      have hnx : ∀ ty, (Instr.next (.pointer (some ⟨w.heap.size, 0, none⟩)) false ty).run Try.prog wr = _ := fun _ => hrun
      have hen := Go.run_entry_at (P := Try.prog) w3 w.heap.size fo clock seen es clock e hit3 ((hB3.block fo hfl).trans hb) (mem_left he1).1 hst.2.1
      rw [hk, hval] at hen
      obtain ⟨b, cc, hbv⟩ := OwnB.shape (h.byt p hp).1
      have hcell : w3.cell? ⟨p, 0, none⟩ = some (bv p) := by
        rw [cell_heap (hB3.block p (h.plt hp)), cell_of_row w p 0 _ _ _ (h.file p hp).1]
        rfl
      rw [hbv] at hcell
      clear hrun
      go_wp2
      go_roundw
      case rel =>
        refine ⟨seen.push e.born, hB3, hit3, ?_⟩
        rw [seenLen_push f seen e (mem_left he1).2 es.toList hst.2.1 (mem_left he1).1]
        have e2 : f e = ((s.file p).bytes.length : Int) := by rw [← hf]; unfold lenE; rw [hval]
        rw [e2, wrap64_add]
      case measure =>
        have e3 : w3.iterSeen w.heap.size = seen.push e.born := by unfold World.iterSeen; rw [hit3]
        have e4 : wr.iterSeen w.heap.size = seen := by unfold World.iterSeen; rw [hit]
        rw [e3, e4]
        exact left_shrinks es seen e he1
end
end Go.Proofs.Ytaeiijncklmfdaa
