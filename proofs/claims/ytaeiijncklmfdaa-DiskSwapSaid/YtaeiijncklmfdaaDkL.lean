/-
  galleylaw03.lives.
-/
import Derived.Test.YtaeiijncklmfdaaDkV
import Derived.Test.YtaeiijncklmfdaaDkI
import Derived.Test.YtaeiijncklmfdaaEq
namespace Go.Proofs.Ytaeiijncklmfdaa
open Go.RowKit

def kA : ByteArray := ⟨#[97]⟩
def kB : ByteArray := ⟨#[98]⟩
theorem asc_of (k : ByteArray) (h : k.data.toList.all (fun b => decide (b.toNat < 128)) = true) : Asc k := fun j b hj => by
  rw [List.all_eq_true] at h
  have := h b (List.mem_of_getElem? hj)
  simpa using this
theorem nmA : IsNm kA := isName_asc _ (asc_of _ (by decide +kernel))
theorem nmB : IsNm kB := isName_asc _ (asc_of _ (by decide +kernel))
def s1L (q : Nat) : DkS := ⟨10, true, [(kA, q)], [], [⟨ByteArray.empty, kA, some q⟩], [], 1, 1, updF (fun _ => ⟨[], 0, false⟩) q ⟨[], 0, false⟩, [q]⟩
def s2L (q : Nat) : DkS := { s1L q with tries := 2, done := 2, file := updF (updF (fun _ => ⟨[], 0, false⟩) q ⟨[], 0, false⟩) q ⟨[1, 2], 0, false⟩ }
theorem admA (s : DkS) (hp : s.power = true) : admitM s [kA] = 0 := by
  have h1 : [kA].any (fun k => !nmOk k) = false := by decide +kernel
  unfold admitM
  rw [hp, h1]
  rfl
theorem admB (s : DkS) (hp : s.power = true) : admitM s [kB] = 0 := by
  have h1 : [kB].any (fun k => !nmOk k) = false := by decide +kernel
  unfold admitM
  rw [hp, h1]
  rfl
theorem tryM_no (s : DkS) (hp : s.plan = []) : tryM s = (0, { s with tries := inc64 s.tries }) := by
  unfold tryM
  split
  · rfl
  · next h => rw [hp] at h; cases h
theorem inc0 : inc64 0 = 1 := by unfold inc64 wrap64; omega
theorem inc1 : inc64 1 = 2 := by unfold inc64 wrap64; omega
theorem live1 (q : Nat) : makeM q (newS 10) kA = (0, s1L q) := by
  unfold makeM
  rw [admA _ rfl, if_neg (by decide), tryM_no _ rfl]
  simp only
  rw [if_neg (by decide), if_neg (by simp [newS])]
  unfold changeM addM s1L newS applyM
  simp only [inc0, Prod.mk.injEq, true_and]
  rw [if_neg (by decide +kernel), if_pos (by decide +kernel)]
  rfl
theorem kAA : (kA == kA) = true := by decide +kernel
theorem kAB : (kA == kB) = false := by decide +kernel
theorem findA (s : DkS) (q : Nat) (hp : s.power = true) (hf : s.folder = [(kA, q)]) : findM s [] kA = (some q, 0) := by
  unfold findM
  rw [List.nil_append, admA s hp, if_neg (by decide), hf]
  simp only [getK, kAA, if_true]
theorem findB (s : DkS) (q : Nat) (hp : s.power = true) (hf : s.folder = [(kA, q)]) : findM s [] kB = (none, 21) := by
  unfold findM
  rw [List.nil_append, admB s hp, if_neg (by decide), hf]
  simp only [getK, kAB, Bool.false_eq_true, if_false]
theorem live2 (q : Nat) : appendM (s1L q) kA [1, 2] = (0, s2L q) := by
  unfold appendM
  rw [findA _ q rfl rfl]
  simp only
  have ht : totM (s1L q) = 0 := by unfold totM s1L updF; simp; unfold wrap64; omega
  rw [tryM_no _ rfl]
  simp only
  rw [if_neg (by decide), ht, if_neg (by unfold wrap64; simp [s1L])]
  unfold s2L s1L
  simp only [inc1, updF, if_true, List.nil_append]
theorem live3 (q : Nat) : syncM (s2L q) kB = (21, s2L q) := by
  unfold syncM
  rw [findB _ q rfl rfl]
theorem live4 (q : Nat) : readM (s2L q) kA = (some [1, 2], 0) := by
  unfold readM
  rw [findA _ q rfl rfl]
  simp [s2L, updF]
theorem pend_dk {w : World} {base d : Nat} {s : DkS} {c : Nat → Nat} (h : Dk w base d s c) : Calls Try.prog 16 #[ptD d] w fun e w' => e = .returned (.int .i64 s.pending.length) ∧ w' = w := by
  obtain ⟨_, _, _, _, _, h⟩ := h
  exact pending_yes w h
theorem done_dk {w : World} {base d : Nat} {s : DkS} {c : Nat → Nat} (h : Dk w base d s c) : Calls Try.prog 17 #[ptD d] w fun e w' => e = .returned (.int .i64 s.done) ∧ w' = w := by
  obtain ⟨_, _, _, _, _, h⟩ := h
  exact done_yes w h
theorem Dk.high {w : World} {base d : Nat} {s : DkS} {c : Nat → Nat} (h : Dk w base d s c) : ∀ b, w.heap.size ≤ b → c b = 0 := by
  obtain ⟨_, _, _, _, _, h⟩ := h
  exact h.high
theorem Dk.base_le {w : World} {base d : Nat} {s : DkS} {c : Nat → Nat} (h : Dk w base d s c) : base ≤ w.heap.size := by
  obtain ⟨_, _, _, _, _, h⟩ := h
  exact h.base_le
set_option maxRecDepth 100000 in
set_option maxHeartbeats 2000000 in
theorem lives3_any (w : World) : Calls Try.prog 12 #[] w fun e w' => e = .returned (.bool true) ∧ Below w.heap.size w w' := by
  go_enter Try.func12, Try.ntmps12
  go_wp2_with fail
  refine (new_yes w 10 (by decide) (by decide)).mono ?_
  rintro e w1 ⟨d, c1, rfl, h1, -, b1⟩
  have B1 := Lib.hid b1
  have H1 := Lib.hid h1
  unfold ptD
  clear b1 h1
  go_wp2_with fail
  refine (make_yes H1.out kA nmA (by simp [newS])).mono ?_
  rintro e w2 ⟨q, hq, he, c2, h2, s2⟩
  rw [live1] at he h2
  subst he
  have H2 := Lib.hid h2
  have B2 := Lib.hid (B1.out.trans s2.bel)
  clear h2 s2 hq H1
  go_wp2_with fail
  have hal := (Below.refl w2.heap.size w2).alloc (Nat.le_refl _) (.cells #[.int .u8 1, .int .u8 2] 5)
  have h2' := H2.out.below hal
  have hsb := SB.lit w2 5 [1, 2] #[.int .u8 1, .int .u8 2] (0, 0) 2 rfl (by decide) (by simp)
  have hap := append_yes h2' kA nmA _ _ _ [1, 2] hsb (fun e => by cases e) (fun w' hs => hsb.stp (fun b hb => by cases hb; exact H2.out.high _ (Nat.le_refl _)) hs) (fun p _ => by simp [s1L, updF])
  have B2' := Lib.hid (B2.out.trans (hal.mono B2.out.size))
  clear hal h2' hsb
  refine hap.mono ?_
  rintro e w3 ⟨he, c3, h3, s3⟩
  rw [live2] at he h3
  subst he
  have H3 := Lib.hid h3
  have B3 := Lib.hid (B2'.out.trans s3.bel)
  clear h3 s3 hap
  go_wp2_with fail
  refine (sync_yes H3.out kB nmB).mono ?_
  rintro e w4 ⟨he, c4, h4, s4⟩
  rw [live3] at he h4
  subst he
  have H4 := Lib.hid h4
  have B4 := Lib.hid (B3.out.trans s4.bel)
  clear h4 s4
  go_wp2_with fail
  refine (read_yes H4.out kA nmA).mono ?_
  rintro e w5 ⟨v, he, ⟨ho, hiB, hl5⟩, hb5⟩
  rw [live4] at he ho hiB hl5
  subst he
  have H5 := Lib.hid (H4.out.below hb5)
  have B5 := Lib.hid (B4.out.trans (hb5.mono B4.out.size))
  have HO := Lib.hid (ho.sb hiB hl5)
  clear ho hiB hl5 hb5
  go_wp2_with fail
  have hal5 := (Below.refl w5.heap.size w5).alloc (Nat.le_refl _) (.cells #[.int .u8 1, .int .u8 2] 5)
  have hsb5 := SB.lit w5 5 [1, 2] #[.int .u8 1, .int .u8 2] (0, 0) 2 rfl (by decide) (by simp)
  have hsv : SB (w5.alloc (.cells #[.int .u8 1, .int .u8 2] 5)) v [1, 2] := HO.out.below hal5
  refine (eqBytes_any _ v _ [1, 2] [1, 2] hsv hsb5).mono ?_
  rintro e w6 ⟨rfl, n6, hw6⟩
  have hb6 : Below w5.heap.size w5 w6 := by rw [hw6]; exact below_drewN hal5 n6
  have H6 := Lib.hid (H5.out.below hb6)
  have B6 := Lib.hid (B5.out.trans (hb6.mono B5.out.size))
  clear hal5 hsb5 hsv hw6 hb6 HO
  go_wp2_with fail
  refine (pend_dk H6.out).mono ?_
  rintro e w7 ⟨rfl, rfl⟩
  have hpl : (s2L q).pending.length = 1 := rfl
  rw [hpl]
  go_wp2_with fail
  refine (done_dk H6.out).mono ?_
  rintro e w8 ⟨rfl, rfl⟩
  have hdn : (s2L q).done = 2 := rfl
  rw [hdn]
  go_wp2_with fail
  go_ret
  exact ⟨rfl, B6.out⟩
end Go.Proofs.Ytaeiijncklmfdaa
