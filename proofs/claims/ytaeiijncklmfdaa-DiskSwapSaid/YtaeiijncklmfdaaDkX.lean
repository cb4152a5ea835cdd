/-
  Layer 3: Remove, Rename, SyncDir, Off. (Written by gen_dkp.py.)
-/
import Derived.Test.YtaeiijncklmfdaaDkV
namespace Go.Proofs.Ytaeiijncklmfdaa
open Go.RowKit

theorem tolNe {a b : ByteArray} (h : a ≠ b) : (a.toList == b.toList) = false := by
  rw [beq_eq_false_iff_ne, ByteArray.toList_eq, ByteArray.toList_eq]
  intro e
  apply h
  cases a; cases b
  simp at e
  rw [e]
def removeM (s : DkS) (k : ByteArray) : Int × DkS :=
  match findM s [] k with
  | (none, X) => (X, s)
  | (some _, _) => if (tryM s).1 = 24 then tryM s else (0, changeM (tryM s).2 ⟨k, ByteArray.empty, none⟩)
def renameM (s : DkS) (k k2 : ByteArray) : Int × DkS :=
  match findM s [k2] k with
  | (none, X) => (X, s)
  | (some p, _) => if (tryM s).1 ≠ 0 then tryM s else if k = k2 then (0, { (tryM s).2 with done := inc64 s.done }) else (0, changeM (tryM s).2 ⟨k, k2, some p⟩)
def syncDirM (s : DkS) : Int × DkS :=
  if admitM s [] ≠ 0 then (admitM s [], s) else if (tryM s).1 ≠ 0 then tryM s else (0, { (tryM s).2 with durable := s.folder, pending := [], done := inc64 s.done })
theorem DkAt.setDur {w w1 : World} {base d : Nat} {s : DkS} {c : Nat → Nat} {fo du : Nat} {pe pl : Value} {bv : Nat → Value} (h : DkAt w base d s c fo du pe pl bv) (g : Nat) (L : List (ByteArray × Nat)) (hm : MapAt w1 g L) (hg : w.heap.size ≤ g) (hb : Below w.heap.size w w1) (hin : ∀ x ∈ L, x.2 ∈ s.ps) :
    ∃ c', DkAt (w1.setCell ⟨d, 3, none⟩ (.map (some g))) base d { s with durable := L } c' fo g pe pl bv ∧ Stp w (w1.setCell ⟨d, 3, none⟩ (.map (some g))) base c c' := by
  have h1 := h.below hb
  have hsz : (w1.setCell ⟨d, 3, none⟩ (.map (some g))).heap.size = w1.heap.size := by simp
  have hgl := hm.lt
  have hk : ∀ k, k ≠ d → (w1.setCell ⟨d, 3, none⟩ (.map (some g))).heap[k]? = w1.heap[k]? := fun k e => heap_setCell_other w1 ⟨d, 3, none⟩ k _ e
  have hk2 : ∀ k, c k ≠ 1 → (w1.setCell ⟨d, 3, none⟩ (.map (some g))).heap[k]? = w1.heap[k]? := fun k e => hk k fun e2 => e (by rw [e2]; exact h.cd)
  let c' : Nat → Nat := fun k => if k = g then 3 else c k
  have hol : ∀ k, c k ≠ 0 → c' k = c k := fun k h0 => if_neg fun e => by have := h.col h0; omega
  refine ⟨c', ?_, ⟨fun k hlt h0 => (hk k (fun e => by rw [e, h.cd] at h0; cases h0)).trans (hb.block k hlt), fun k hlt => if_neg (by omega), (hb.mono h.base_le).setCell (h.low d (by rw [h.cd]; decide)) _, h.base_le⟩⟩
  exact {
    disk := by rw [heap_setCell_same w1 d 3 _ _ _ h1.disk]; rfl
    cd := (hol d (by rw [h.cd]; decide)).trans h.cd
    fold := h1.fold.keep (hk2 fo (by rw [h.cf]; decide))
    cf := (hol fo (by rw [h.cf]; decide)).trans h.cf
    dur := hm.keep (hk g (fun e => by have := h.dlt; omega))
    cu := if_pos rfl
    pend := own_blk h1.pend fun k e => hk2 k (by rw [h.cp k e]; decide)
    cp := fun k e => (hol k (by rw [h.cp k e]; decide)).trans (h.cp k e)
    plan := h1.plan.keep (Nat.le_of_eq hsz.symm) fun q hq _ => ⟨hk2 q (by rw [hq]; decide), (hol q (by rw [hq]; decide)).trans hq⟩
    file := fun p hp => ⟨(hk2 p (by rw [(h.file p hp).2]; decide)).trans (h1.file p hp).1, (hol p (by rw [(h.file p hp).2]; decide)).trans (h.file p hp).2⟩
    byt := fun p hp => ⟨own_blk (h1.byt p hp).1 fun k e => hk2 k (by rw [h.cb p hp k e]; omega), (h.byt p hp).2⟩
    cb := fun p hp k e => (hol k (by rw [h.cb p hp k e]; omega)).trans (h.cb p hp k e)
    fin := h.fin
    din := hin
    pin := h.pin
    high := fun b hb2 => by
      rw [hsz] at hb2
      exact (show c' b = c b from if_neg (by omega)).trans (h1.high b hb2)
    low := fun b hb2 => by
      by_cases e : b = g
      · have := h.base_le; omega
      · rw [show c' b = c b from if_neg e] at hb2; exact h.low b hb2
    base_le := by rw [hsz]; exact h1.base_le }
theorem DkAt.setFol {w w1 : World} {base d : Nat} {s : DkS} {c : Nat → Nat} {fo du : Nat} {pe pl : Value} {bv : Nat → Value} (h : DkAt w base d s c fo du pe pl bv) (g : Nat) (L : List (ByteArray × Nat)) (hm : MapAt w1 g L) (hg : w.heap.size ≤ g) (hb : Below w.heap.size w w1) (hin : ∀ x ∈ L, x.2 ∈ s.ps) :
    ∃ c', DkAt (w1.setCell ⟨d, 2, none⟩ (.map (some g))) base d { s with folder := L } c' g du pe pl bv ∧ Stp w (w1.setCell ⟨d, 2, none⟩ (.map (some g))) base c c' := by
  have h1 := h.below hb
  have hsz : (w1.setCell ⟨d, 2, none⟩ (.map (some g))).heap.size = w1.heap.size := by simp
  have hgl := hm.lt
  have hk : ∀ k, k ≠ d → (w1.setCell ⟨d, 2, none⟩ (.map (some g))).heap[k]? = w1.heap[k]? := fun k e => heap_setCell_other w1 ⟨d, 2, none⟩ k _ e
  have hk2 : ∀ k, c k ≠ 1 → (w1.setCell ⟨d, 2, none⟩ (.map (some g))).heap[k]? = w1.heap[k]? := fun k e => hk k fun e2 => e (by rw [e2]; exact h.cd)
  let c' : Nat → Nat := fun k => if k = g then 2 else c k
  have hol : ∀ k, c k ≠ 0 → c' k = c k := fun k h0 => if_neg fun e => by have := h.col h0; omega
  refine ⟨c', ?_, ⟨fun k hlt h0 => (hk k (fun e => by rw [e, h.cd] at h0; cases h0)).trans (hb.block k hlt), fun k hlt => if_neg (by omega), (hb.mono h.base_le).setCell (h.low d (by rw [h.cd]; decide)) _, h.base_le⟩⟩
  exact {
    disk := by rw [heap_setCell_same w1 d 2 _ _ _ h1.disk]; rfl
    cd := (hol d (by rw [h.cd]; decide)).trans h.cd
    fold := hm.keep (hk g (fun e => by have := h.dlt; omega))
    cf := if_pos rfl
    dur := h1.dur.keep (hk2 du (by rw [h.cu]; decide))
    cu := (hol du (by rw [h.cu]; decide)).trans h.cu
    pend := own_blk h1.pend fun k e => hk2 k (by rw [h.cp k e]; decide)
    cp := fun k e => (hol k (by rw [h.cp k e]; decide)).trans (h.cp k e)
    plan := h1.plan.keep (Nat.le_of_eq hsz.symm) fun q hq _ => ⟨hk2 q (by rw [hq]; decide), (hol q (by rw [hq]; decide)).trans hq⟩
    file := fun p hp => ⟨(hk2 p (by rw [(h.file p hp).2]; decide)).trans (h1.file p hp).1, (hol p (by rw [(h.file p hp).2]; decide)).trans (h.file p hp).2⟩
    byt := fun p hp => ⟨own_blk (h1.byt p hp).1 fun k e => hk2 k (by rw [h.cb p hp k e]; omega), (h.byt p hp).2⟩
    cb := fun p hp k e => (hol k (by rw [h.cb p hp k e]; omega)).trans (h.cb p hp k e)
    fin := hin
    din := h.din
    pin := h.pin
    high := fun b hb2 => by
      rw [hsz] at hb2
      exact (show c' b = c b from if_neg (by omega)).trans (h1.high b hb2)
    low := fun b hb2 => by
      by_cases e : b = g
      · have := h.base_le; omega
      · rw [show c' b = c b from if_neg e] at hb2; exact h.low b hb2
    base_le := by rw [hsz]; exact h1.base_le }
section
variable {w : World} {base d : Nat} {s : DkS} {c : Nat → Nat}
set_option maxRecDepth 100000 in
theorem off_yes (h0 : Dk w base d s c) : Calls Try.prog 21 #[ptD d] w fun e w' => e = .returned (.tuple #[]) ∧ Dk w' base d { s with power := false } c ∧ Stp w w' base c c := by
  obtain ⟨fo, du, pe, pl, bv, h⟩ := h0
  have hi := isDisk_yes w h
  obtain ⟨-, c1, -⟩ := h.cell
  have f1 := h.frz 1
  have H1 := Lib.hid (h.setPower false)
  have S1 := Lib.hid (Stp.set h d 1 (by rw [h.cd]; decide) (.bool false))
  unfold ptD at *
  have HI := Lib.hid hi
  clear h hi
  go_enter Try.func21, Try.ntmps21
  go_wp2_with fail
  refine HI.out.mono ?_
  rintro e w2 ⟨rfl, rfl⟩
  go_wp2_with fail
  go_end0
  exact ⟨rfl, ⟨_, _, _, _, _, H1.out⟩, S1.out⟩
set_option maxRecDepth 100000 in
set_option maxHeartbeats 1000000 in
theorem syncDir_yes (h0 : Dk w base d s c) : Calls Try.prog 26 #[ptD d] w (SyPost w base d c (syncDirM s)) := by
  obtain ⟨fo, du, pe, pl, bv, h⟩ := h0
  have had := admit_yes w h (.slice none 0 0) [] ((OwnT.nil w 0).ts (by simp)) (fun x hx => by cases hx)
  obtain ⟨E, hE⟩ : ∃ E, admitM s [] = E := ⟨_, rfl⟩
  obtain ⟨T, hT⟩ : ∃ T, (tryM s).1 = T := ⟨_, rfl⟩
  have hkeep := tryM_keep s
  rw [hE] at had
  have HR1 : Hid (E ≠ 0 → ∀ w', Dk w' base d s c → Stp w w' base c c → SyPost w base d c (syncDirM s) (.returned (.int .i64 E)) w') := Lib.hid fun he w' hd hs => by
    have : syncDirM s = (E, s) := by unfold syncDirM; rw [hE, if_pos he]
    unfold SyPost
    rw [this]; exact ⟨rfl, c, hd, hs⟩
  have HR2 : Hid (E = 0 → T ≠ 0 → ∀ w', Dk w' base d (tryM s).2 c → Stp w w' base c c → SyPost w base d c (syncDirM s) (.returned (.int .i64 T)) w') := Lib.hid fun he ht w' hd hs => by
    have : syncDirM s = tryM s := by unfold syncDirM; rw [hE, if_neg (by simp [he]), hT, if_pos ht]
    unfold SyPost
    rw [this, ← hT]; exact ⟨rfl, c, hd, hs⟩
  have HR3 : Hid (E = 0 → T = 0 → ∀ c' w', Dk w' base d { (tryM s).2 with durable := s.folder, pending := [], done := inc64 s.done } c' → Stp w w' base c c' → SyPost w base d c (syncDirM s) (.returned (.int .i64 0)) w') := Lib.hid fun he ht c' w' hd hs => by
    have : syncDirM s = (0, { (tryM s).2 with durable := s.folder, pending := [], done := inc64 s.done }) := by unfold syncDirM; rw [hE, if_neg (by simp [he]), hT, if_neg (by simp [ht])]
    unfold SyPost
    rw [this]; exact ⟨rfl, c', hd, hs⟩
  have HTE := Lib.hid hT
  have HH := Lib.hid h
  unfold ptD at had ⊢
  have HAD := Lib.hid had
  clear had h hE hT
  go_enter Try.func26, Try.ntmps26
  go_wp2_with fail
  refine HAD.out.mono ?_
  rintro e w2 ⟨rfl, hb⟩
  have HH2 := Lib.hid (HH.out.below hb)
  have HS2 := Lib.hid (Stp.below c hb HH.out.base_le)
  clear hb HAD
  by_cases he : E = 0
  · have hd0 : (E != 0) = false := by simp [he]
    have HE := Lib.hid he
    have HT2 := Lib.hid (try_yes w2 HH2.out)
    unfold ptD at HT2
    clear he
    go_wp2_with fail
    refine HT2.out.mono ?_
    rintro e w3 ⟨he3, pl3, h3, s3⟩
    rw [HTE.out] at he3
    subst he3
    have HH3 := Lib.hid h3
    have HS3 := Lib.hid (HS2.out.trans s3)
    by_cases ht : T = 0
    · have ht0 : (T != 0) = false := by simp [ht]
      have HTT := Lib.hid ht
      obtain ⟨-, -, c2, -⟩ := h3.cell
      have hcl := Lib.hid (mapsClone_any w3 fo _ h3.fold)
      clear ht h3 s3 HT2
      go_wp2_with fail
      refine hcl.out.mono ?_
      rintro e w4 ⟨rfl, hb4, hm4, hs4⟩
      have h4' := HH3.out.below hb4
      obtain ⟨-, -, -, e3, e4, -, -, e7, -⟩ := h4'.cell
      have z3 := h4'.frz 3
      obtain ⟨c5, h5, s5⟩ := HH3.out.setDur w3.heap.size _ hm4 (Nat.le_refl _) hb4 HH3.out.fin
      obtain ⟨-, -, -, -, f4, -⟩ := h5.cell
      have z4 := h5.frz 4
      obtain ⟨c6, h6, s6⟩ := h5.setPend (w1 := w4.setCell ⟨d, 3, none⟩ (.map (some w3.heap.size))) (.slice none 0 0) [] (World.ownsRow_nil _ _ _ _) (fun _ _ _ => rfl) (Nat.le_refl _) (fun _ e => by cases e) ((Below.refl _ _).mono h5.base_le) (fun x hx => by cases hx)
      obtain ⟨-, -, -, -, -, -, -, d7, -⟩ := h6.cell
      have z7 := h6.frz 7
      have HS7 := Lib.hid (((HS3.out.trans s5).trans s6).trans (Stp.set h6 d 7 (by rw [h6.cd]; decide) (.int .i64 (inc64 s.done))))
      have HH7 := Lib.hid ((h6.setDone (inc64 s.done)).same (s' := { (tryM s).2 with durable := s.folder, pending := [], done := inc64 s.done }) (by simp only [← hkeep.1]))
      simp only [hkeep.2.2.2.2.2.1] at d7 e7
      unfold inc64 at HS7 HH7
      clear h5 s5 h6 s6 h4' hb4 hm4 hs4 hcl
      go_wp2_with fail
      go_ret
      exact HR3.out HE.out HTT.out _ _ ⟨_, _, _, _, _, by unfold inc64; exact HH7.out⟩ HS7.out
    · have ht0 : (T != 0) = true := by simpa using ht
      have HTN := Lib.hid ht
      clear ht h3 s3
      go_wp2_with fail
      go_ret
      exact HR2.out HE.out HTN.out _ ⟨_, _, _, _, _, HH3.out⟩ HS3.out
  · have hd0 : (E != 0) = true := by simpa using he
    have HE := Lib.hid he
    clear he
    go_wp2_with fail
    go_ret
    exact HR1.out HE.out _ ⟨_, _, _, _, _, HH2.out⟩ HS2.out
set_option maxRecDepth 100000 in
set_option maxHeartbeats 1000000 in
theorem remove_yes (h0 : Dk w base d s c) (k : ByteArray) (hn : IsNm k) (hlen : s.pending.length ≤ 1000000000000) :
    Calls Try.prog 35 #[ptD d, .string k] w (SyPost w base d c (removeM s k)) := by
  obtain ⟨fo, du, pe, pl, bv, h⟩ := h0
  have hfi := find_yes (w := w) h (Below.refl _ _) k (.slice none 0 0) [] (OwnT.nil _ _) (by simp) (fun x hx => by simp at hx; rw [hx]; exact hn)
  obtain ⟨Fp, X, hF⟩ : ∃ Fp X, findM s [] k = (Fp, X) := ⟨_, _, rfl⟩
  obtain ⟨T, hT⟩ : ∃ T, (tryM s).1 = T := ⟨_, rfl⟩
  rw [hF] at hfi
  cases Fp with
  | none =>
    have hX := find_none hF
    have hd : (X != 0) = true := bne_iff_ne.2 hX
    have HP : Hid (∀ w', Below w.heap.size w w' → SyPost w base d c (removeM s k) (.returned (.int .i64 X)) w') := Lib.hid fun w' hb => by
      have : removeM s k = (X, s) := by unfold removeM; rw [hF]
      unfold SyPost
      rw [this]; exact ⟨rfl, c, (show Dk w base d s c from ⟨fo, du, pe, pl, bv, h⟩).below hb, Stp.below c hb h.base_le⟩
    dsimp only [ptV] at hfi
    unfold ptD at *
    have HFI := Lib.hid hfi
    clear hfi h hT hF
    go_enter Try.func35, Try.ntmps35
    go_wp2_with fail
    refine HFI.out.mono ?_
    rintro e w2 ⟨rfl, hb⟩
    have HB := Lib.hid hb
    clear hb HFI
    go_wp2_with fail
    go_ret
    exact HP.out _ HB.out
  | some p =>
    obtain ⟨hp, rfl⟩ := find_ps h hF
    have hkeep := tryM_keep s
    have HP1 : Hid (T = 24 → ∀ w', Dk w' base d (tryM s).2 c → Stp w w' base c c → SyPost w base d c (removeM s k) (.returned (.int .i64 T)) w') := Lib.hid fun ht w' hd hs => by
      have : removeM s k = tryM s := by unfold removeM; rw [hF]; simp only; rw [if_pos (by rw [hT]; exact ht)]
      unfold SyPost
      rw [this, ← hT]; exact ⟨rfl, c, hd, hs⟩
    have HP2 : Hid (T ≠ 24 → ∀ c' w', Dk w' base d (changeM (tryM s).2 ⟨k, ByteArray.empty, none⟩) c' → Stp w w' base c c' → SyPost w base d c (removeM s k) (.returned (.int .i64 0)) w') := Lib.hid fun ht c' w' hd hs => by
      have : removeM s k = (0, changeM (tryM s).2 ⟨k, ByteArray.empty, none⟩) := by unfold removeM; rw [hF]; simp only; rw [if_neg (by rw [hT]; exact ht)]
      unfold SyPost
      rw [this]; exact ⟨rfl, c', hd, hs⟩
    have HTE := Lib.hid hT
    have HF' := Lib.hid hp
    dsimp only [ptV] at hfi
    unfold ptD at *
    have HFI := Lib.hid hfi
    have HH := Lib.hid h
    clear hfi h hT hF hp
    go_enter Try.func35, Try.ntmps35
    go_wp2_with fail
    refine HFI.out.mono ?_
    rintro e w2 ⟨rfl, hb⟩
    have h2 := HH.out.below hb
    have HS2 := Lib.hid (Stp.below c hb HH.out.base_le)
    have HT2 := Lib.hid (try_yes w2 h2)
    unfold ptD at HT2
    clear hb HFI h2
    go_wp2_with fail
    refine HT2.out.mono ?_
    rintro e w3 ⟨he3, pl3, h3, s3⟩
    rw [HTE.out] at he3
    subst he3
    have HS3 := Lib.hid (HS2.out.trans s3)
    have HH3 := Lib.hid h3
    by_cases ht : T = 24
    · subst ht
      clear h3 s3
      go_wp2_with fail
      go_ret
      exact HP1.out (by trivial) _ ⟨_, _, _, _, _, HH3.out⟩ HS3.out
    · have ht0 : (T == 24) = false := by simpa using ht
      have HTN := Lib.hid ht
      clear ht h3 s3 HT2 HS2
      have hcg := change_any HH3.out ⟨k, ByteArray.empty, none⟩ (fun e => absurd rfl e) (fun p hp => by cases hp) (by show (tryM s).2.pending.length ≤ _; rw [hkeep.2.2.1]; exact hlen)
      unfold ptD chV ptV at hcg
      have HCG := Lib.hid hcg
      clear hcg
      go_wp2_with fail
      refine HCG.out.mono ?_
      rintro e w5 ⟨rfl, c5, pe5, pl5, bv5, h5, s5⟩
      have HD5 := Lib.hid (show Dk w5 base d _ c5 from ⟨_, _, _, _, _, h5⟩)
      have HS5 := Lib.hid (HS3.out.trans s5)
      clear h5 s5 HCG
      go_wp2_with fail
      go_ret
      exact HP2.out HTN.out _ _ HD5.out HS5.out
set_option maxRecDepth 100000 in
set_option maxHeartbeats 1000000 in
theorem rename_yes (h0 : Dk w base d s c) (k : ByteArray) (hn : IsNm k) (k2 : ByteArray) (hn2 : IsNm k2) (hlen : s.pending.length ≤ 1000000000000) :
    Calls Try.prog 34 #[ptD d, .string k, .string k2] w (SyPost w base d c (renameM s k k2)) := by
  obtain ⟨fo, du, pe, pl, bv, h⟩ := h0
  have hfi := find_yes (w := w.alloc (.cells #[.string k2] 9)) h ((Below.refl _ _).alloc (Nat.le_refl _) _) k _ [k2] (made_t1 w _ k2 (Nat.le_refl _)) (by simp) (fun x hx => by simp at hx; rcases hx with rfl | rfl; exact hn2; exact hn)
  obtain ⟨Fp, X, hF⟩ : ∃ Fp X, findM s [k2] k = (Fp, X) := ⟨_, _, rfl⟩
  obtain ⟨T, hT⟩ : ∃ T, (tryM s).1 = T := ⟨_, rfl⟩
  rw [hF] at hfi
  cases Fp with
  | none =>
    have hX := find_none hF
    have hd : (X != 0) = true := bne_iff_ne.2 hX
    have HP : Hid (∀ w', Below w.heap.size w w' → SyPost w base d c (renameM s k k2) (.returned (.int .i64 X)) w') := Lib.hid fun w' hb => by
      have : renameM s k k2 = (X, s) := by unfold renameM; rw [hF]
      unfold SyPost
      rw [this]; exact ⟨rfl, c, (show Dk w base d s c from ⟨fo, du, pe, pl, bv, h⟩).below hb, Stp.below c hb h.base_le⟩
    dsimp only [ptV] at hfi
    unfold ptD at *
    have HFI := Lib.hid hfi
    clear hfi h hT hF
    go_enter Try.func34, Try.ntmps34
    go_wp2_with fail
    refine HFI.out.mono ?_
    rintro e w2 ⟨rfl, hb⟩
    have HB := Lib.hid hb
    clear hb HFI
    go_wp2_with fail
    go_ret
    exact HP.out _ HB.out
  | some p =>
    obtain ⟨hp, rfl⟩ := find_ps h hF
    have hkeep := tryM_keep s
    have HP1 : Hid (T ≠ 0 → ∀ w', Dk w' base d (tryM s).2 c → Stp w w' base c c → SyPost w base d c (renameM s k k2) (.returned (.int .i64 T)) w') := Lib.hid fun ht w' hd hs => by
      have : renameM s k k2 = tryM s := by unfold renameM; rw [hF]; simp only; rw [if_pos (by rw [hT]; exact ht)]
      unfold SyPost
      rw [this, ← hT]; exact ⟨rfl, c, hd, hs⟩
    have HP2 : Hid (T = 0 → k = k2 → ∀ c' w', Dk w' base d { (tryM s).2 with done := inc64 s.done } c' → Stp w w' base c c' → SyPost w base d c (renameM s k k2) (.returned (.int .i64 0)) w') := Lib.hid fun ht hk c' w' hd hs => by
      have : renameM s k k2 = (0, { (tryM s).2 with done := inc64 s.done }) := by unfold renameM; rw [hF]; simp only; rw [if_neg (by rw [hT]; simp [ht]), if_pos hk]
      unfold SyPost
      rw [this]; exact ⟨rfl, c', hd, hs⟩
    have HP3 : Hid (T = 0 → k ≠ k2 → ∀ c' w', Dk w' base d (changeM (tryM s).2 ⟨k, k2, some p⟩) c' → Stp w w' base c c' → SyPost w base d c (renameM s k k2) (.returned (.int .i64 0)) w') := Lib.hid fun ht hk c' w' hd hs => by
      have : renameM s k k2 = (0, changeM (tryM s).2 ⟨k, k2, some p⟩) := by unfold renameM; rw [hF]; simp only; rw [if_neg (by rw [hT]; simp [ht]), if_neg hk]
      unfold SyPost
      rw [this]; exact ⟨rfl, c', hd, hs⟩
    have HTE := Lib.hid hT
    have HF' := Lib.hid hp
    dsimp only [ptV] at hfi
    unfold ptD at *
    have HFI := Lib.hid hfi
    have HH := Lib.hid h
    clear hfi h hT hF hp
    go_enter Try.func34, Try.ntmps34
    go_wp2_with fail
    refine HFI.out.mono ?_
    rintro e w2 ⟨rfl, hb⟩
    have h2 := HH.out.below hb
    have HS2 := Lib.hid (Stp.below c hb HH.out.base_le)
    have HT2 := Lib.hid (try_yes w2 h2)
    unfold ptD at HT2
    clear hb HFI h2
    go_wp2_with fail
    refine HT2.out.mono ?_
    rintro e w3 ⟨he3, pl3, h3, s3⟩
    rw [HTE.out] at he3
    subst he3
    have HS3 := Lib.hid (HS2.out.trans s3)
    have HH3 := Lib.hid h3
    by_cases ht : T = 0
    · have ht0 : (T != 0) = false := by simp [ht]
      have HTT := Lib.hid ht
      clear ht s3 HT2 HS2
      by_cases hk : k = k2
      · have hkd : decide (k = k2) = true := by simpa using hk
        obtain ⟨-, -, -, -, -, -, -, d7, -⟩ := h3.cell
        have f7 := h3.frz 7
        have HS7 := Lib.hid (HS3.out.trans (Stp.set h3 d 7 (by rw [h3.cd]; decide) (.int .i64 (inc64 s.done))))
        have HH7 := Lib.hid (h3.setDone (inc64 s.done))
        simp only [hkeep.2.2.2.2.2.1] at d7
        unfold inc64 at HS7 HH7
        have HK := Lib.hid hk
        clear h3
        subst hk
        go_wp2_with fail
        go_ret
        exact HP2.out HTT.out (by trivial) _ _ ⟨_, _, _, _, _, by unfold inc64; exact HH7.out⟩ HS7.out
      · have hkd : (k == k2) = false := bqn hk
        have hkd2 : decide (k = k2) = false := by simpa using hk
        have hkd3 : (k.toList == k2.toList) = false := tolNe hk
        have HK := Lib.hid hk
        have hp3 : p ∈ (tryM s).2.ps := by rw [hkeep.2.2.2.2.1]; exact HF'.out
        have HP3' := Lib.hid hp3
        clear h3 hp3
        have hcg := change_any HH3.out ⟨k, k2, some p⟩ (fun _ e => by cases e) (fun q hq => by cases hq; exact HP3'.out) (by show (tryM s).2.pending.length ≤ _; rw [hkeep.2.2.1]; exact hlen)
        unfold ptD chV ptV at hcg
        have HCG := Lib.hid hcg
        clear hcg
        go_wp2_with fail
        refine HCG.out.mono ?_
        rintro e w5 ⟨rfl, c5, pe5, pl5, bv5, h5, s5⟩
        have HD5 := Lib.hid (show Dk w5 base d _ c5 from ⟨_, _, _, _, _, h5⟩)
        have HS5 := Lib.hid (HS3.out.trans s5)
        clear h5 s5 HCG
        go_wp2_with fail
        go_ret
        exact HP3.out HTT.out HK.out _ _ HD5.out HS5.out
    · have ht0 : (T != 0) = true := by simpa using ht
      have HTN := Lib.hid ht
      clear ht h3 s3
      go_wp2_with fail
      go_ret
      exact HP1.out HTN.out _ ⟨_, _, _, _, _, HH3.out⟩ HS3.out
end
end Go.Proofs.Ytaeiijncklmfdaa
