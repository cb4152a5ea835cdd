/-
  bytes.IndexByte, Index, Cut at a line end; space.Space: Cut, First.
-/
import Derived.Test.YtakimaceohfpcaaDoorDo
import Derived.Test.YtakimaceohfpcaaDoorText
import Derived.Lib.BytesEntry
import Derived.Laws.Externs
namespace Go.Proofs.YtakimaceohfpcaaDoor
open Go.RowKit

/-- What stands ahead of the first line end, and behind it. -/
def cutL : List Int → Option (List Int × List Int)
  | [] => none
  | x :: t => if x = 10 then some ([], t) else (cutL t).map fun y => (x :: y.1, y.2)
def posL (l : List Int) : Int := match cutL l with
  | some (a, _) => a.length
  | none => -1
theorem cutL_some : ∀ {l a b : List Int}, cutL l = some (a, b) → l = a ++ 10 :: b
  | [], a, b, h => by simp [cutL] at h
  | x :: t, a, b, h => by
    rw [cutL] at h
    split at h
    · rename_i hx
      simp only [Option.some.injEq, Prod.mk.injEq] at h
      obtain ⟨rfl, rfl⟩ := h
      rw [hx]; rfl
    · rw [Option.map_eq_some_iff] at h
      obtain ⟨⟨a', b'⟩, h1, h2⟩ := h
      simp only [Prod.mk.injEq] at h2
      obtain ⟨rfl, rfl⟩ := h2
      rw [cutL_some h1]; rfl
theorem index_pos : ∀ (l : List Int), (∀ c ∈ l, 0 ≤ c ∧ c ≤ 255) → Lib.indexByte (Lib.bytesOf l) 10 = posL l
  | [], _ => rfl
  | x :: t, h => by
    have ih := index_pos t fun c hc => h c (by simp [hc])
    have hx := h x (by simp)
    have e : Lib.bytesOf (x :: t) = UInt8.ofNat x.toNat :: Lib.bytesOf t := rfl
    rw [e, Lib.indexByte, ih]
    unfold posL
    rw [cutL]
    by_cases h10 : x = 10
    · subst h10; rfl
    · have hne : ((UInt8.ofNat x.toNat) == (10 : UInt8)) = false := by
        rw [beq_eq_false_iff_ne]
        intro e
        have := congrArg UInt8.toNat e
        simp at this
        omega
      rw [hne, if_neg h10]
      cases cutL t with
      | none => rfl
      | some y =>
        obtain ⟨a, b⟩ := y
        simp
theorem isB_mem (l : List Int) (h : IsB l) : ∀ c ∈ l, 0 ≤ c ∧ c ≤ 255 := by
  intro c hc
  obtain ⟨i, hi, rfl⟩ := List.mem_iff_getElem.1 hc
  have := h i
  simpa [hi] using this

/-- A list that begins at the head of a block, or nil. -/
def HeadV (v : Value) : Prop := v = .slice none 0 0 ∨ ∃ g n c, v = .slice (some ⟨g, 0, none⟩) n c
theorem OwnB.head {w : World} {base : Nat} {v : Value} {l : List Int} (h : OwnB w base v l) : HeadV v := by
  rcases h.2 with ⟨rfl, _⟩ | ⟨g, cap, cur, rfl, _⟩
  · exact .inl rfl
  · exact .inr ⟨_, _, _, rfl⟩

set_option maxHeartbeats 1000000 in
set_option maxRecDepth 100000 in
theorem indexByte_any (w : World) (v : Value) (l : List Int) (hv : HeadV v) (hs : SB w v l) : Calls Tryd.prog 141 #[v, .int .u8 10] w fun e w' => e = .returned (.int .i64 (posL l)) ∧ w = w' := by
  have hpos := index_pos l (isB_mem l hs.1)
  rcases hv with rfl | ⟨g, n, c, rfl⟩
  · have hl := hs.ofNone
    subst hl
    have hr := Lib.run_indexByteNil (P := Tryd.prog) w 0 0 10
    go_enter Tryd.func141, Tryd.ntmps141
    go_wp2
    rw [run_callFunc_extern (P := Tryd.prog) Tryd.func147 (by kernel_rfl) (by kernel_rfl) (by kernel_rfl) (e := Extern.BytealgIndexByte.indexByte) (by kernel_rfl), hr]
    simp only [Result.andThen]
    rw [Oper.upon_value]
    clear hr
    go_wp2
    go_ret
    exact ⟨rfl, rfl⟩
  · obtain ⟨hl, hc⟩ := hs.cells
    have hr := Lib.run_indexByteSlice (P := Tryd.prog) w g 0 n c l hl (fun i hi => by rw [getD_eq]; exact hc i hi) 10
    rw [show (10 : Int).toNat.toUInt8 = 10 from rfl, hpos] at hr
    clear hc hs hl hpos
    generalize posL l = r at hr ⊢
    go_enter Tryd.func141, Tryd.ntmps141
    go_wp2
    rw [run_callFunc_extern (P := Tryd.prog) Tryd.func147 (by kernel_rfl) (by kernel_rfl) (by kernel_rfl) (e := Extern.BytealgIndexByte.indexByte) (by kernel_rfl), hr]
    simp only [Result.andThen]
    rw [Oper.upon_value]
    clear hr
    go_wp2
    go_ret
    exact ⟨rfl, rfl⟩

set_option maxRecDepth 100000 in
theorem index_any (w : World) (v : Value) (l : List Int) (hv : HeadV v) (hs : SB w v l) (b2 d : Nat) (h10 : w.cell? ⟨b2, 0, none⟩ = some (.int .u8 10)) : Calls Tryd.prog 133 #[v, .slice (some ⟨b2, 0, none⟩) 1 d] w fun e w' => e = .returned (.int .i64 (posL l)) ∧ w = w' := by
  have HI := Lib.hid (indexByte_any w v l hv hs)
  clear hs hv
  generalize posL l = r at HI ⊢
  go_enter Tryd.func133, Tryd.ntmps133
  go_wp2_with fail
  refine HI.out.mono ?_
  rintro e w' ⟨rfl, rfl⟩
  go_wp2_with fail
  go_ret
  exact ⟨rfl, rfl⟩

def CutPost (w : World) (v : Value) (l : List Int) (e : Ending) (w' : World) : Prop :=
  match cutL l with
  | some (a, b) => ∃ va vb, e = .returned (.tuple #[va, vb, .bool true]) ∧ SB w va a ∧ SB w vb b ∧ ∃ n, w' = w.drewN n
  | none => e = .returned (.tuple #[v, .slice none 0 0, .bool false]) ∧ ∃ n, w' = w.drewN n
theorem cut_none {w w' : World} {v : Value} {l : List Int} {e : Ending} (h : CutPost w v l e w') (hc : cutL l = none) : e = .returned (.tuple #[v, .slice none 0 0, .bool false]) ∧ ∃ n, w' = w.drewN n := by
  unfold CutPost at h; rw [hc] at h; exact h
theorem cut_some {w w' : World} {v : Value} {l a b : List Int} {e : Ending} (h : CutPost w v l e w') (hc : cutL l = some (a, b)) : ∃ va vb, e = .returned (.tuple #[va, vb, .bool true]) ∧ SB w va a ∧ SB w vb b ∧ ∃ n, w' = w.drewN n := by
  unfold CutPost at h; rw [hc] at h; exact h

set_option maxHeartbeats 1000000 in
set_option maxRecDepth 100000 in
theorem cut_any (w : World) (v : Value) (l : List Int) (hv : HeadV v) (hs : SB w v l) (hcap : ∀ ad n c, v = .slice ad n c → n ≤ c) (b2 d : Nat) (h10 : w.cell? ⟨b2, 0, none⟩ = some (.int .u8 10)) :
    Calls Tryd.prog 120 #[v, .slice (some ⟨b2, 0, none⟩) 1 d] w (CutPost w v l) := by
  have HI := Lib.hid (index_any w v l hv hs b2 d h10)
  obtain ⟨-, ad, cap, rfl, hll, -⟩ := id hs
  have hc := hcap _ _ _ rfl
  clear hcap hv
  cases hcut : cutL l with
  | none =>
    have hp : posL l = -1 := by unfold posL; rw [hcut]
    have H : ∀ n, CutPost w (.slice ad l.length cap) l (.returned (.tuple #[.slice ad l.length cap, .slice none 0 0, .bool false])) (w.drewN n) := fun n => by unfold CutPost; rw [hcut]; exact ⟨rfl, n, rfl⟩
    have HH := Lib.hid H
    rw [hp] at HI
    clear hcut hp H h10 hs
    go_enter Tryd.func120, Tryd.ntmps120
    go_wp2_with fail
    refine HI.out.mono ?_
    rintro e w' ⟨rfl, rfl⟩
    go_wp2_with fail
    go_ret3
    exact HH.out 0
  | some y =>
    obtain ⟨a, b⟩ := y
    have hla := cutL_some hcut
    have hp : posL l = a.length := by unfold posL; rw [hcut]
    have hlen : a.length + 1 + b.length = l.length := by rw [hla, List.length_append, List.length_cons]; omega
    obtain ⟨a1, -, s1, -, e1⟩ := hs.cut 0 a.length (by omega) (by omega) hc
    obtain ⟨a2, -, s2, g2, e2⟩ := hs.cut (a.length + 1) l.length (by omega) (Nat.le_refl _) hc
    rw [e2] at g2
    have g1 : ∀ W, (Instr.slice 48 (.slice ad l.length cap) none (some (.int .i64 a.length)) none).run Tryd.prog W = .ok (.slice a1 a.length cap) W := fun W => by
      rw [run_slice_h W 48 ad l.length cap elemU8 .i64 a.length (by omega) (by omega), sizeU8]
      exact congrArg (fun v => Result.ok v W) e1
    have s1 : SB w (.slice a1 a.length cap) a := by
      have : (l.drop 0).take (a.length - 0) = a := by rw [List.drop_zero, hla]; simp
      rw [this] at s1
      exact s1
    have s2 : SB w (.slice a2 (l.length - (a.length + 1)) (cap - (a.length + 1))) b := by
      have : (l.drop (a.length + 1)).take (l.length - (a.length + 1)) = b := by
        rw [List.take_of_length_le (by rw [List.length_drop]; omega), hla]
        rw [show a.length + 1 = (a ++ [10]).length by simp, show a ++ 10 :: b = (a ++ [10]) ++ b by simp]
        exact List.drop_left
      rw [this] at s2
      exact s2
    have g2' : ∀ W, (Instr.slice 48 (.slice ad l.length cap) (some (.int .i64 ((a.length : Int) + 1))) none none).run Tryd.prog W = .ok (.slice a2 (l.length - (a.length + 1)) (cap - (a.length + 1))) W := g2
    have H : ∀ n, CutPost w (.slice ad l.length cap) l (.returned (.tuple #[.slice a1 a.length cap, .slice a2 (l.length - (a.length + 1)) (cap - (a.length + 1)), .bool true])) (w.drewN n) := fun n => by unfold CutPost; rw [hcut]; exact ⟨_, _, rfl, s1, s2, n, rfl⟩
    have HH := Lib.hid H
    rw [hp] at HI
    have hw1 : IntKind.i64.wrap ((a.length : Int) + 1) = (a.length : Int) + 1 := IntWalk.i64_in _ (by omega)
    have hal : a.length < l.length := by omega
    clear hcut hp H h10 hs s1 s2 e1 e2 g2 hla hlen
    go_enter Tryd.func120, Tryd.ntmps120
    go_wp2_with fail
    refine HI.out.mono ?_
    rintro e w' ⟨rfl, rfl⟩
    go_wp2_with fail
    go_quiet (fail)
    clear g1 g2' hw1
    go_wp2_with fail
    go_ret3
    exact HH.out _
end Go.Proofs.YtakimaceohfpcaaDoor
