/-
  Layer 3: a disk without files; Read.
-/
import Derived.Test.YtaeiijncklmfdaaDkU
namespace Go.Proofs.Ytaeiijncklmfdaa
open Go.RowKit

def newS (room : Int) : DkS := ⟨room, true, [], [], [], [], 0, 0, fun _ => ⟨[], 0, false⟩, []⟩
theorem map_nil (w : World) : MapAt (w.alloc (.map #[] 0)) w.heap.size [] := ⟨#[], 0, heap_alloc_new w _, MapKept.stamped_empty 0, rfl⟩
/-- The three blocks of a disk without files. -/
theorem new_at (w w2 : World) (room : Int) (h0 : MapAt w2 w.heap.size []) (h1 : MapAt w2 (w.heap.size + 1) []) (hs : w2.heap.size = w.heap.size + 2) :
    ∃ c, DkAt (w2.alloc (.cells #[.int .i64 room, .bool true, .map (some w.heap.size), .map (some (w.heap.size + 1)), .slice none 0 0, .slice none 0 0, .int .i64 0, .int .i64 0, .bool true] 71)) w.heap.size w2.heap.size (newS room) c w.heap.size (w.heap.size + 1) (.slice none 0 0) (.slice none 0 0) (fun _ => .slice none 0 0) ∧ ∀ k, k < w.heap.size → c k = 0 := by
  refine ⟨fun k => if k = w.heap.size then 2 else if k = w.heap.size + 1 then 3 else if k = w2.heap.size then 1 else 0, ?_, fun k hk => by
    show (if k = w.heap.size then 2 else if k = w.heap.size + 1 then 3 else if k = w2.heap.size then 1 else 0) = 0
    rw [if_neg (by omega), if_neg (by omega), if_neg (by omega)]⟩
  exact {
    disk := heap_alloc_new w2 _
    cd := by
      show (if w2.heap.size = w.heap.size then 2 else if w2.heap.size = w.heap.size + 1 then 3 else if w2.heap.size = w2.heap.size then 1 else 0) = 1
      rw [if_neg (by omega), if_neg (by omega), if_pos rfl]
    fold := h0.keep (heap_alloc_old w2 _ h0.lt)
    cf := if_pos rfl
    dur := h1.keep (heap_alloc_old w2 _ h1.lt)
    cu := by
      show (if w.heap.size + 1 = w.heap.size then 2 else if w.heap.size + 1 = w.heap.size + 1 then 3 else _) = 3
      rw [if_neg (by omega), if_pos rfl]
    pend := World.ownsRow_nil _ _ _ _
    cp := fun g e => by cases e
    plan := ⟨none, 0, rfl, by simp [newS], by simp [newS], fun _ => rfl, fun b hb => by cases hb⟩
    file := fun p hp => by cases hp
    byt := fun p hp => by cases hp
    cb := fun p hp => by cases hp
    fin := fun x hx => by cases hx
    din := fun x hx => by cases hx
    pin := fun x hx => by cases hx
    high := fun b hb => by
      rw [World.size_alloc] at hb
      show (if b = w.heap.size then 2 else if b = w.heap.size + 1 then 3 else if b = w2.heap.size then 1 else 0) = 0
      rw [if_neg (by omega), if_neg (by omega), if_neg (by omega)]
    low := fun b hb => by
      by_cases h1 : b = w.heap.size
      · omega
      · by_cases h2 : b = w.heap.size + 1
        · omega
        · by_cases h3 : b = w2.heap.size
          · omega
          · exact absurd (show (if b = w.heap.size then 2 else if b = w.heap.size + 1 then 3 else if b = w2.heap.size then 1 else 0) = 0 by rw [if_neg h1, if_neg h2, if_neg h3]) hb
    base_le := by rw [World.size_alloc]; omega }
def NewPost (w : World) (room : Int) (e : Ending) (w' : World) : Prop := ∃ d c, e = .returned (.tuple #[ptD d, .int .i64 0]) ∧ Dk w' w.heap.size d (newS room) c ∧ (∀ k, k < w.heap.size → c k = 0) ∧ Below w.heap.size w w'
set_option maxRecDepth 100000 in
set_option maxHeartbeats 1000000 in
theorem from_nil (w : World) (room : Int) (h1 : 0 ≤ room) (h2 : room ≤ 16777216) : Calls Try.prog 28 #[.int .i64 room, .slice none 0 0] w (NewPost w room) := by
  have hmm := @run_makeMap Try.prog
  have h0 := map_nil w
  have hb0 := (Below.refl w.heap.size w).alloc (Nat.le_refl _) (.map #[] 0)
  have hcl := mapsClone_any (w.alloc (.map #[] 0)) w.heap.size [] h0
  rw [World.size_alloc] at hcl
  have HCL := Lib.hid hcl
  have H0 := Lib.hid h0
  have HB0 := Lib.hid hb0
  have d1 : decide (room < 0) = false := by simp; omega
  have d2 : decide ((16777216 : Int) < room) = false := by simp; omega
  have HR1 := Lib.hid h1
  clear hcl h0 hb0 h1 h2
  go_enter Try.func28, Try.ntmps28
  go_wp2_with fail
  refine wp_loop_rounds 1 ?_
  rw [rounds_succ]
  go_wp2_with fail
  refine HCL.out.mono ?_
  rintro e w2 ⟨rfl, hb2, hm2, hs2⟩
  have hb02 := HB0.out.trans (hb2.mono (Nat.le_succ _))
  have hm0 := H0.out.keep (w' := w2) (hb2.block _ (Nat.lt_succ_self _))
  obtain ⟨c, hdk, hc0⟩ := new_at w w2 room hm0 hm2 hs2
  have hbw := hb02.alloc hb02.size (.cells #[.int .i64 room, .bool true, .map (some w.heap.size), .map (some (w.heap.size + 1)), .slice none 0 0, .slice none 0 0, .int .i64 0, .int .i64 0, .bool true] 71)
  have hto := total_any hdk
  have ht0 : totM (newS room) = 0 := by show wrap64 0 = 0; unfold wrap64; omega
  rw [ht0] at hto
  unfold ptD at hto
  have HTO := Lib.hid hto
  have HDK := Lib.hid hdk
  have HBW := Lib.hid hbw
  have HC0 := Lib.hid hc0
  clear hb2 hm2 hb02 hm0 hdk hto hbw hc0 HCL H0 HB0 hmm hs2
  go_wp2_with fail
  refine HTO.out.mono ?_
  rintro e w3 ⟨rfl, hb3⟩
  have HDK3 := Lib.hid (HDK.out.below hb3)
  have HB3 := Lib.hid (HBW.out.trans (hb3.mono HBW.out.size))
  have d3 : decide (room < 0) = false := d1
  have d4 := HR1.out
  clear hb3
  go_wp2_with fail
  go_ret2
  exact ⟨_, c, rfl, ⟨_, _, _, _, _, HDK3.out⟩, HC0.out, HB3.out⟩
set_option maxRecDepth 100000 in
theorem new_yes (w : World) (room : Int) (h1 : 0 ≤ room) (h2 : room ≤ 16777216) : Calls Try.prog 43 #[.int .i64 room] w (NewPost w room) := by
  have H := Lib.hid (from_nil w room h1 h2)
  go_enter Try.func43, Try.ntmps43
  go_wp2_with fail
  refine H.out.mono ?_
  rintro e w2 ⟨d, c, rfl, h3, h4, h5⟩
  have HP : Hid (NewPost w room (.returned (.tuple #[ptD d, .int .i64 0])) w2) := Lib.hid ⟨d, c, rfl, h3, h4, h5⟩
  clear h3 h4 h5 H
  unfold ptD at *
  go_wp2_with fail
  go_ret2
  exact HP.out

def readM (s : DkS) (k : ByteArray) : Option (List Int) × Int := match findM s [] k with
  | (none, X) => (none, X)
  | (some p, _) => if (s.file p).bad then (none, 23) else (some (s.file p).bytes, 0)
def RdPost (w : World) (s : DkS) (k : ByteArray) (e : Ending) (w' : World) : Prop :=
  ∃ v, e = .returned (.tuple #[v, .int .i64 (readM s k).2]) ∧ (OwnB w' w.heap.size v ((readM s k).1.getD []) ∧ IsB ((readM s k).1.getD []) ∧ ((readM s k).1.getD []).length ≤ 140737488351232) ∧ Below w.heap.size w w'
section
variable {w : World} {base d : Nat} {s : DkS} {c : Nat → Nat}
set_option maxRecDepth 100000 in
set_option maxHeartbeats 1000000 in
theorem read_yes (h0 : Dk w base d s c) (k : ByteArray) (hn : IsNm k) : Calls Try.prog 30 #[ptD d, .string k] w (RdPost w s k) := by
  obtain ⟨fo, du, pe, pl, bv, h⟩ := h0
  have hfi := find_yes (w := w) h (Below.refl _ _) k (.slice none 0 0) [] (OwnT.nil _ _) (by simp) (fun x hx => by simp at hx; rw [hx]; exact hn)
  obtain ⟨Fp, X, hF⟩ : ∃ Fp X, findM s [] k = (Fp, X) := ⟨_, _, rfl⟩
  rw [hF] at hfi
  cases Fp with
  | none =>
    have hX := find_none hF
    have hd : (X != 0) = true := bne_iff_ne.2 hX
    have HP : Hid (∀ w', Below w.heap.size w w' → RdPost w s k (.returned (.tuple #[.slice none 0 0, .int .i64 X])) w') := Lib.hid fun w' hb => by
      have : readM s k = (none, X) := by unfold readM; rw [hF]
      unfold RdPost
      rw [this]; exact ⟨_, rfl, ⟨OwnB.nil _ _, isB_nil, by simp⟩, hb⟩
    dsimp only [ptV] at hfi
    unfold ptD at *
    have HFI := Lib.hid hfi
    clear hfi h hF
    go_enter Try.func30, Try.ntmps30
    go_wp2_with fail
    refine HFI.out.mono ?_
    rintro e w2 ⟨rfl, hb⟩
    have HB := Lib.hid hb
    clear hb HFI
    go_wp2_with fail
    go_ret2
    exact HP.out _ HB.out
  | some p =>
    obtain ⟨hp, rfl⟩ := find_ps h hF
    have HP1 : Hid ((s.file p).bad = true → ∀ w', Below w.heap.size w w' → RdPost w s k (.returned (.tuple #[.slice none 0 0, .int .i64 23])) w') := Lib.hid fun hbd w' hb => by
      have : readM s k = (none, 23) := by unfold readM; rw [hF]; simp only; rw [if_pos hbd]
      unfold RdPost
      rw [this]; exact ⟨_, rfl, ⟨OwnB.nil _ _, isB_nil, by simp⟩, hb⟩
    have hby := h.byt p hp
    have HP2 : Hid ((s.file p).bad = false → ∀ v w', OwnB w' w.heap.size v (s.file p).bytes → Below w.heap.size w w' → RdPost w s k (.returned (.tuple #[v, .int .i64 0])) w') := Lib.hid fun hbd v w' ho hb => by
      have : readM s k = (some (s.file p).bytes, 0) := by unfold readM; rw [hF]; simp only; rw [if_neg (by rw [hbd]; decide)]
      unfold RdPost
      rw [this]; exact ⟨_, rfl, ⟨ho, hby.2⟩, hb⟩
    have HF' := Lib.hid hp
    have HBY := Lib.hid hby.2.2
    dsimp only [ptV] at hfi
    unfold ptD at *
    have HFI := Lib.hid hfi
    have HH := Lib.hid h
    clear hfi h hF hp hby
    go_enter Try.func30, Try.ntmps30
    go_wp2_with fail
    refine HFI.out.mono ?_
    rintro e w2 ⟨rfl, hb⟩
    have h2 := HH.out.below hb
    have HB := Lib.hid hb
    obtain ⟨f0, -, f2, -⟩ := h2.fcell HF'.out
    obtain ⟨a0, c0, hbv, hbc, hbn⟩ := own_shp (h2.byt p HF'.out).1
    have hsb := (h2.byt p HF'.out).1.sb (h2.byt p HF'.out).2.1 HBY.out
    rw [hbv] at f0 hsb
    have hcl := cloneB_any w2 a0 _ c0 _ hsb hbn hbc HBY.out
    have HCL := Lib.hid hcl
    clear hb HFI h2 hsb hcl hbv hbn HBY
    cases hbd : (s.file p).bad
    · rw [hbd] at f2
      generalize (s.file p).bytes.length = L at *
      go_wp2_with fail
      refine HCL.out.mono ?_
      rintro e w3 ⟨v, rfl, ho, hb3⟩
      have HO := Lib.hid (ho.mono HB.out.size)
      have HB3 := Lib.hid (HB.out.trans (hb3.mono HB.out.size))
      clear ho hb3 HCL
      go_wp2_with fail
      go_ret2
      exact HP2.out hbd _ _ HO.out HB3.out
    · rw [hbd] at f2
      go_wp2_with fail
      go_ret2
      exact HP1.out hbd _ HB.out
end
end Go.Proofs.Ytaeiijncklmfdaa
