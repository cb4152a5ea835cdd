/-
  Layer 3: Sync, Append, Read. (Written by gen_dko.py.)
-/
import Derived.Test.YtaeiijncklmfdaaDkU
namespace Go.Proofs.Ytaeiijncklmfdaa
open Go.RowKit

def syncM (s : DkS) (k : ByteArray) : Int × DkS :=
  match findM s [] k with
  | (none, X) => (X, s)
  | (some p, _) => if (tryM s).1 ≠ 0 then tryM s else (0, { (tryM s).2 with file := updF s.file p { s.file p with synced := ((s.file p).bytes.length : Int) }, done := inc64 s.done })
def appendM (s : DkS) (k : ByteArray) (b : List Int) : Int × DkS :=
  match findM s [] k with
  | (none, X) => (X, s)
  | (some p, _) => if (tryM s).1 ≠ 0 then tryM s else if b ≠ [] ∧ s.room < wrap64 (totM s + (b.length : Int)) then (22, (tryM s).2) else
    (0, { (tryM s).2 with file := updF s.file p { s.file p with bytes := (s.file p).bytes ++ b }, done := inc64 s.done })
theorem isB_app {a b : List Int} (ha : IsB a) (hb : IsB b) : IsB (a ++ b) := fun i => by
  rw [List.getElem?_append]
  split
  · exact ha i
  · exact hb _
section
variable {w : World} {base d : Nat} {s : DkS} {c : Nat → Nat}
def SyPost (w : World) (base d : Nat) (c : Nat → Nat) (M : Int × DkS) (e : Ending) (w' : World) : Prop := DkR w base d c M e w'
set_option maxRecDepth 100000 in
set_option maxHeartbeats 1000000 in
theorem sync_yes (h0 : Dk w base d s c) (k : ByteArray) (hn : IsNm k) :
    Calls Try.prog 33 #[ptD d, .string k] w (SyPost w base d c (syncM s k)) := by
  obtain ⟨fo, du, pe, pl, bv, h⟩ := h0
  have hfi := find_yes (w := w) h (Below.refl _ _) k (.slice none 0 0) [] (OwnT.nil _ _) (by simp) (fun x hx => by simp at hx; rw [hx]; exact hn)
  obtain ⟨Fp, X, hF⟩ : ∃ Fp X, findM s [] k = (Fp, X) := ⟨_, _, rfl⟩
  obtain ⟨T, hT⟩ : ∃ T, (tryM s).1 = T := ⟨_, rfl⟩
  rw [hF] at hfi
  cases Fp with
  | none =>
    have hX := find_none hF
    have hd : (X != 0) = true := bne_iff_ne.2 hX
    have HP : Hid (∀ w', Below w.heap.size w w' → SyPost w base d c (syncM s k) (.returned (.int .i64 X)) w') := Lib.hid fun w' hb => by
      have : syncM s k = (X, s) := by unfold syncM; rw [hF]
      unfold SyPost
      rw [this]; exact ⟨rfl, c, (show Dk w base d s c from ⟨fo, du, pe, pl, bv, h⟩).below hb, Stp.below c hb h.base_le⟩
    dsimp only [ptV] at hfi
    unfold ptD at *
    have HFI := Lib.hid hfi
    clear hfi h hT hF
    go_enter Try.func33, Try.ntmps33
    go_wp2_with fail
    refine HFI.out.mono ?_
    rintro e w2 ⟨rfl, hb⟩
    have HB := Lib.hid hb
    clear hb HFI
    go_wp2_with fail
    go_ret
    exact HP.out _ HB.out
  | some p =>
    obtain ⟨hp, rfl⟩ := find_ps h hF
    have hkeep := tryM_keep s
    have HP1 : Hid (T ≠ 0 → ∀ w', Dk w' base d (tryM s).2 c → Stp w w' base c c → SyPost w base d c (syncM s k) (.returned (.int .i64 T)) w') := Lib.hid fun ht w' hd hs => by
      have : syncM s k = tryM s := by unfold syncM; rw [hF]; simp only; rw [if_pos (by rw [hT]; exact ht)]
      unfold SyPost
      rw [this, ← hT]; exact ⟨rfl, c, hd, hs⟩
    have HP2 : Hid (T = 0 → ∀ c' w', Dk w' base d { (tryM s).2 with file := updF s.file p { s.file p with synced := ((s.file p).bytes.length : Int) }, done := inc64 s.done } c' → Stp w w' base c c' → SyPost w base d c (syncM s k) (.returned (.int .i64 0)) w') := Lib.hid fun ht c' w' hd hs => by
      have : syncM s k = (0, { (tryM s).2 with file := updF s.file p { s.file p with synced := ((s.file p).bytes.length : Int) }, done := inc64 s.done }) := by unfold syncM; rw [hF]; simp only; rw [if_neg (by rw [hT]; simp [ht])]
      unfold SyPost
      rw [this]; exact ⟨rfl, c', hd, hs⟩
    have HTE := Lib.hid hT
    have HF' := Lib.hid hp
    dsimp only [ptV] at hfi
    unfold ptD at *
    have HFI := Lib.hid hfi
    have HH := Lib.hid h
    clear hfi h hT hF hp
    go_enter Try.func33, Try.ntmps33
    go_wp2_with fail
    refine HFI.out.mono ?_
    rintro e w2 ⟨rfl, hb⟩
    have h2 := HH.out.below hb
    have HS2 := Lib.hid (Stp.below c hb HH.out.base_le)
    have HT2 := Lib.hid (try_yes w2 h2)
    unfold ptD at HT2
    clear hb HFI h2
    go_wp2_with fail
    refine HT2.out.mono ?_
    rintro e w3 ⟨he3, pl3, h3, s3⟩
    rw [HTE.out] at he3
    subst he3
    have HS3 := Lib.hid (HS2.out.trans s3)
    by_cases ht : T = 0
    · have ht0 : (T != 0) = false := by simp [ht]
      have HTT := Lib.hid ht
      have hp3 : p ∈ (tryM s).2.ps := by rw [hkeep.2.2.2.2.1]; exact HF'.out
      obtain ⟨f0, f1, -, fz⟩ := h3.fcell hp3
      obtain ⟨b0, cc0, hbv⟩ := OwnB.shape (h3.byt p hp3).1
      rw [hbv] at f0
      have fz1 := fz 1
      obtain ⟨c4, bv4, h4, s4⟩ := h3.setFile p hp3 { (tryM s).2.file p with synced := (((tryM s).2.file p).bytes.length : Int) } (bv p) (.int .i64 (((tryM s).2.file p).bytes.length : Int)) 1 rfl (h3.byt p hp3).1 (h3.byt p hp3).2.1 (h3.byt p hp3).2.2 (fun _ _ _ => rfl) (Nat.le_refl _) (fun _ e => .inl e) ((Below.refl _ _).mono h3.base_le)
      obtain ⟨-, -, -, -, -, -, -, d7, -⟩ := h4.cell
      have f7 := h4.frz 7
      have HS4 := Lib.hid ((HS3.out.trans s4).trans (Stp.set h4 d 7 (by rw [h4.cd]; decide) (.int .i64 (inc64 s.done))))
      have HH4 := Lib.hid ((h4.setDone (inc64 s.done)).same (s' := { (tryM s).2 with file := updF s.file p { s.file p with synced := ((s.file p).bytes.length : Int) }, done := inc64 s.done }) (by rw [hkeep.2.2.2.1]))
      simp only [hkeep.2.2.2.2.2.1] at d7
      simp only [hkeep.2.2.2.1] at f0 d7 f7 HS4 HH4
      generalize hL : (s.file p).bytes.length = Ln at *
      unfold inc64 at HS4 HH4
      clear h3 s3 fz h4 s4 hbv HT2 HS2 HS3 HP1
      go_wp2_with fail
      go_ret
      exact HP2.out HTT.out _ _ ⟨_, _, _, _, _, by unfold inc64; exact HH4.out⟩ HS4.out
    · have ht0 : (T != 0) = true := by simpa using ht
      have HTN := Lib.hid ht
      have HH3 := Lib.hid h3
      clear ht h3 s3
      go_wp2_with fail
      go_ret
      exact HP1.out HTN.out _ ⟨_, _, _, _, _, HH3.out⟩ HS3.out
set_option maxRecDepth 100000 in
set_option maxHeartbeats 2000000 in
theorem append_yes (h0 : Dk w base d s c) (k : ByteArray) (hn : IsNm k) (a : Option Addr) (n cc : Nat) (b : List Int) (hsb : SB w (.slice a n cc) b) (hN : a = none → cc = 0) (hfar : ∀ w', Stp w w' base c c → SB w' (.slice a n cc) b) (hbig : ∀ p ∈ s.ps, (s.file p).bytes.length + n ≤ 140737488351232) :
    Calls Try.prog 32 #[ptD d, .string k, .slice a n cc] w (SyPost w base d c (appendM s k b)) := by
  have hbl := hsb.len.1
  have hnl := hsb.len.2
  obtain ⟨fo, du, pe, pl, bv, h⟩ := h0
  have hfi := find_yes (w := w) h (Below.refl _ _) k (.slice none 0 0) [] (OwnT.nil _ _) (by simp) (fun x hx => by simp at hx; rw [hx]; exact hn)
  obtain ⟨Fp, X, hF⟩ : ∃ Fp X, findM s [] k = (Fp, X) := ⟨_, _, rfl⟩
  obtain ⟨T, hT⟩ : ∃ T, (tryM s).1 = T := ⟨_, rfl⟩
  rw [hF] at hfi
  cases Fp with
  | none =>
    have hX := find_none hF
    have hd : (X != 0) = true := bne_iff_ne.2 hX
    have HP : Hid (∀ w', Below w.heap.size w w' → SyPost w base d c (appendM s k b) (.returned (.int .i64 X)) w') := Lib.hid fun w' hb => by
      have : appendM s k b = (X, s) := by unfold appendM; rw [hF]
      unfold SyPost
      rw [this]; exact ⟨rfl, c, (show Dk w base d s c from ⟨fo, du, pe, pl, bv, h⟩).below hb, Stp.below c hb h.base_le⟩
    dsimp only [ptV] at hfi
    unfold ptD at *
    have HFI := Lib.hid hfi
    clear hfi h hT hF hbig hfar hN hsb
    go_enter Try.func32, Try.ntmps32
    go_wp2_with fail
    refine HFI.out.mono ?_
    rintro e w2 ⟨rfl, hb⟩
    have HB := Lib.hid hb
    clear hb HFI
    go_wp2_with fail
    go_ret
    exact HP.out _ HB.out
  | some p =>
    obtain ⟨hp, rfl⟩ := find_ps h hF
    have hkeep := tryM_keep s
    have htot : totM (tryM s).2 = totM s := by unfold totM; rw [hkeep.1, hkeep.2.2.2.1]
    have HP1 : Hid (T ≠ 0 → ∀ w', Dk w' base d (tryM s).2 c → Stp w w' base c c → SyPost w base d c (appendM s k b) (.returned (.int .i64 T)) w') := Lib.hid fun ht w' hd hs => by
      have : appendM s k b = tryM s := by unfold appendM; rw [hF]; simp only; rw [if_pos (by rw [hT]; exact ht)]
      unfold SyPost
      rw [this, ← hT]; exact ⟨rfl, c, hd, hs⟩
    have HP3 : Hid (T = 0 → n ≠ 0 → s.room < wrap64 (totM s + (n : Int)) → ∀ w', Dk w' base d (tryM s).2 c → Stp w w' base c c → SyPost w base d c (appendM s k b) (.returned (.int .i64 22)) w') := Lib.hid fun ht h1 h2 w' hd hs => by
      have : appendM s k b = (22, (tryM s).2) := by unfold appendM; rw [hF]; simp only; rw [if_neg (by rw [hT]; simp [ht]), if_pos ⟨fun e => by rw [e] at hbl; simp at hbl; omega, by rw [hbl]; exact h2⟩]
      unfold SyPost
      rw [this]; exact ⟨rfl, c, hd, hs⟩
    have HP2 : Hid (T = 0 → ¬ (n ≠ 0 ∧ s.room < wrap64 (totM s + (n : Int))) → ∀ c' w', Dk w' base d { (tryM s).2 with file := updF s.file p { s.file p with bytes := (s.file p).bytes ++ b }, done := inc64 s.done } c' → Stp w w' base c c' → SyPost w base d c (appendM s k b) (.returned (.int .i64 0)) w') := Lib.hid fun ht h1 c' w' hd hs => by
      have : appendM s k b = (0, { (tryM s).2 with file := updF s.file p { s.file p with bytes := (s.file p).bytes ++ b }, done := inc64 s.done }) := by unfold appendM; rw [hF]; simp only; rw [if_neg (by rw [hT]; simp [ht]), if_neg (by rw [hbl]; intro e; exact h1 ⟨fun e2 => e.1 (List.eq_nil_of_length_eq_zero (by omega)), e.2⟩)]
      unfold SyPost
      rw [this]; exact ⟨rfl, c', hd, hs⟩
    have HTE := Lib.hid hT
    have HF' := Lib.hid hp
    have HSB := Lib.hid hsb
    have HFAR := Lib.hid hfar
    have HNN := Lib.hid hN
    have HBIG := Lib.hid (hbig p hp)
    have HTOT := Lib.hid htot
    dsimp only [ptV] at hfi
    unfold ptD at *
    have HFI := Lib.hid hfi
    have HH := Lib.hid h
    clear hfi h hT hF hp hsb hfar hN hbig htot
    go_enter Try.func32, Try.ntmps32
    go_wp2_with fail
    refine HFI.out.mono ?_
    rintro e w2 ⟨rfl, hb⟩
    have h2 := HH.out.below hb
    have HS2 := Lib.hid (Stp.below c hb HH.out.base_le)
    have HT2 := Lib.hid (try_yes w2 h2)
    unfold ptD at HT2
    clear hb HFI h2
    go_wp2_with fail
    refine HT2.out.mono ?_
    rintro e w3 ⟨he3, pl3, h3, s3⟩
    rw [HTE.out] at he3
    subst he3
    have HS3 := Lib.hid (HS2.out.trans s3)
    have HH3 := Lib.hid h3
    by_cases ht : T = 0
    · have ht0 : (T != 0) = false := by simp [ht]
      have HTT := Lib.hid ht
      have hp3 : p ∈ (tryM s).2.ps := by rw [hkeep.2.2.2.2.1]; exact HF'.out
      have HP3' := Lib.hid hp3
      obtain ⟨r0, -⟩ := h3.cell
      rw [hkeep.2.2.2.2.2.2] at r0
      have HKE := Lib.hid hkeep
      have r0d : w3.drew.cell? ⟨d, 0, none⟩ = some (.int .i64 s.room) := r0
      clear ht h3 s3 hp3 hkeep r0 HT2 HS2
      by_cases hn0 : n = 0
      · have hd0 : decide ((0 : Int) < (n : Int)) = false := by simp; omega
        have HNF : Hid (¬ (n ≠ 0 ∧ s.room < wrap64 (totM s + (n : Int)))) := Lib.hid fun e => e.1 hn0
        have HN0 := Lib.hid hn0
        clear hn0
        go_upto_region 7 with fail
        refine wp_region_held_drew (S := fun w' => w'.cell? ⟨d, 0, none⟩ = some (.int .i64 s.room)) (by kernel_rfl) r0d (fun hHeld => ?_)
        have HD := Lib.hid (HH3.out.drewN 1)
        have HSD := Lib.hid (HS3.out.drewN 1)
        change Hid (DkAt w3.drew base d (tryM s).2 c fo du pe pl3 bv) at HD
        change Hid (Stp w w3.drew base c c) at HSD
        generalize w3.drew = w4 at *
        refine wpAnyH_take (i := 0) (v := .slice a n cc) rfl (by kernel_rfl) (by kernel_rfl) (by kernel_rfl) (fun _ _ _ h => h) (Or.inl ⟨by rfl, by intro w hSw; (try dsimp only at hSw); go_simp⟩) (by assumption) ?_
        simp only [Act.put, List.getElem_toArray, List.getElem_cons_zero, List.setIfInBounds_toArray, List.set_cons_zero, List.set_cons_succ]
        refine wpAnyH_take (i := 1) (v := .int .i64 (n : Int)) rfl (by kernel_rfl) (by kernel_rfl) (by kernel_rfl) (fun _ _ _ h => h) (Or.inl ⟨by rfl, by intro w hSw; (try dsimp only at hSw); go_simp⟩) (by assumption) ?_
        simp only [Act.put, List.getElem_toArray, List.getElem_cons_zero, List.getElem_cons_succ, List.setIfInBounds_toArray, List.set_cons_zero, List.set_cons_succ]
        refine wpAnyH_take (i := 2) (v := .bool false) rfl (by kernel_rfl) (by kernel_rfl) (by kernel_rfl) (fun _ _ _ h => h) (Or.inl ⟨by rfl, by intro w hSw; (try dsimp only at hSw); go_simp; exact HN0.out⟩) (by assumption) ?_
        simp only [Act.put, List.getElem_toArray, List.getElem_cons_zero, List.getElem_cons_succ, List.setIfInBounds_toArray, List.set_cons_zero, List.set_cons_succ]
        refine wpAnyH_take (i := 3) (v := .bool false) rfl (by kernel_rfl) (by kernel_rfl) (by kernel_rfl) (fun _ _ _ h => h) (Or.inl ⟨by rfl, by intro w hSw; (try dsimp only at hSw); go_simp⟩) (by assumption) ?_
        simp only [Act.put, List.getElem_toArray, List.getElem_cons_zero, List.getElem_cons_succ, List.setIfInBounds_toArray, List.set_cons_zero, List.set_cons_succ]
        refine wpAnyH_take (i := 4) (v := undef) rfl (by kernel_rfl) (by kernel_rfl) (by kernel_rfl) (fun _ _ _ h => h) (Or.inr ⟨by rfl, rfl⟩) (by assumption) ?_
        simp only [Act.put, List.getElem_toArray, List.getElem_cons_zero, List.getElem_cons_succ, List.setIfInBounds_toArray, List.set_cons_zero, List.set_cons_succ]
        refine wpAnyH_take (i := 5) (v := undef) rfl (by kernel_rfl) (by kernel_rfl) (by kernel_rfl) (fun _ _ _ h => h) (Or.inr ⟨by rfl, rfl⟩) (by assumption) ?_
        simp only [Act.put, List.getElem_toArray, List.getElem_cons_zero, List.getElem_cons_succ, List.setIfInBounds_toArray, List.set_cons_zero, List.set_cons_succ]
        refine wpAnyH_take (i := 6) (v := undef) rfl (by kernel_rfl) (by kernel_rfl) (by kernel_rfl) (fun _ _ _ h => h) (Or.inr ⟨by rfl, rfl⟩) (by assumption) ?_
        simp only [Act.put, List.getElem_toArray, List.getElem_cons_zero, List.getElem_cons_succ, List.setIfInBounds_toArray, List.set_cons_zero, List.set_cons_succ]
        refine wpAnyH_take (i := 7) (v := undef) rfl (by kernel_rfl) (by kernel_rfl) (by kernel_rfl) (fun _ _ _ h => h) (Or.inr ⟨by rfl, rfl⟩) (by assumption) ?_
        simp only [Act.put, List.getElem_toArray, List.getElem_cons_zero, List.getElem_cons_succ, List.setIfInBounds_toArray, List.set_cons_zero, List.set_cons_succ]
        refine wpAnyH_take (i := 8) (v := undef) rfl (by kernel_rfl) (by kernel_rfl) (by kernel_rfl) (fun _ _ _ h => h) (Or.inr ⟨by rfl, rfl⟩) (by assumption) ?_
        simp only [Act.put, List.getElem_toArray, List.getElem_cons_zero, List.getElem_cons_succ, List.setIfInBounds_toArray, List.set_cons_zero, List.set_cons_succ]
        refine wpAnyH_take (i := 9) (v := undef) rfl (by kernel_rfl) (by kernel_rfl) (by kernel_rfl) (fun _ _ _ h => h) (Or.inr ⟨by rfl, rfl⟩) (by assumption) ?_
        simp only [Act.put, List.getElem_toArray, List.getElem_cons_zero, List.getElem_cons_succ, List.setIfInBounds_toArray, List.set_cons_zero, List.set_cons_succ]
        refine wpAnyH_take (i := 10) (v := undef) rfl (by kernel_rfl) (by kernel_rfl) (by kernel_rfl) (fun _ _ _ h => h) (Or.inr ⟨by rfl, rfl⟩) (by assumption) ?_
        simp only [Act.put, List.getElem_toArray, List.getElem_cons_zero, List.getElem_cons_succ, List.setIfInBounds_toArray, List.set_cons_zero, List.set_cons_succ]
        refine wpAnyH_take (i := 11) (v := undef) rfl (by kernel_rfl) (by kernel_rfl) (by kernel_rfl) (fun _ _ _ h => h) (Or.inr ⟨by rfl, rfl⟩) (by assumption) ?_
        simp only [Act.put, List.getElem_toArray, List.getElem_cons_zero, List.getElem_cons_succ, List.setIfInBounds_toArray, List.set_cons_zero, List.set_cons_succ]
        refine wpAnyH_take (i := 12) (v := undef) rfl (by kernel_rfl) (by kernel_rfl) (by kernel_rfl) (fun _ _ _ h => h) (Or.inr ⟨by rfl, rfl⟩) (by assumption) ?_
        simp only [Act.put, List.getElem_toArray, List.getElem_cons_zero, List.getElem_cons_succ, List.setIfInBounds_toArray, List.set_cons_zero, List.set_cons_succ]
        refine wpAnyH_take (i := 13) (v := undef) rfl (by kernel_rfl) (by kernel_rfl) (by kernel_rfl) (fun _ _ _ h => h) (Or.inr ⟨by rfl, rfl⟩) (by assumption) ?_
        simp only [Act.put, List.getElem_toArray, List.getElem_cons_zero, List.getElem_cons_succ, List.setIfInBounds_toArray, List.set_cons_zero, List.set_cons_succ]
        refine wpAnyH_take (i := 14) (v := undef) rfl (by kernel_rfl) (by kernel_rfl) (by kernel_rfl) (fun _ _ _ h => h) (Or.inr ⟨by rfl, rfl⟩) (by assumption) ?_
        simp only [Act.put, List.getElem_toArray, List.getElem_cons_zero, List.getElem_cons_succ, List.setIfInBounds_toArray, List.set_cons_zero, List.set_cons_succ]
        refine wpAnyH_take (i := 15) (v := undef) rfl (by kernel_rfl) (by kernel_rfl) (by kernel_rfl) (fun _ _ _ h => h) (Or.inr ⟨by rfl, rfl⟩) (by assumption) ?_
        simp only [Act.put, List.getElem_toArray, List.getElem_cons_zero, List.getElem_cons_succ, List.setIfInBounds_toArray, List.set_cons_zero, List.set_cons_succ]
        refine wpAnyH_take (i := 16) (v := undef) rfl (by kernel_rfl) (by kernel_rfl) (by kernel_rfl) (fun _ _ _ h => h) (Or.inr ⟨by rfl, rfl⟩) (by assumption) ?_
        simp only [Act.put, List.getElem_toArray, List.getElem_cons_zero, List.getElem_cons_succ, List.setIfInBounds_toArray, List.set_cons_zero, List.set_cons_succ]
        refine wpAnyH_take (i := 17) (v := .bool false) rfl (by kernel_rfl) (by kernel_rfl) (by kernel_rfl) (fun _ _ _ h => h) (Or.inl ⟨by rfl, by intro w hSw; (try dsimp only at hSw); go_simp⟩) (by assumption) ?_
        simp only [Act.put, List.getElem_toArray, List.getElem_cons_zero, List.getElem_cons_succ, List.setIfInBounds_toArray, List.set_cons_zero, List.set_cons_succ]
        refine wpAnyH_done (by kernel_rfl) ?_ _
        have HH4 := HD
        have HS4 := HSD
        clear hd0
        have hp4 := HP3'.out
        obtain ⟨f0, -, -, fz⟩ := HH4.out.fcell hp4
        have fz0 := fz 0
        have hby := HH4.out.byt p hp4
        rw [HKE.out.2.2.2.1] at hby
        have hsb4 := HFAR.out _ HS4.out
        have hbs4 := HH4.out.base_le
        have hplt := HH4.out.plt hp4
        have hnp : (bv p).ownBlock ≠ some p := fun e => by have h1 := HH4.out.cb p hp4 p e; have h2 := (HH4.out.file p hp4).2; omega
        have hfb := (HH4.out.file p hp4).1
        have HNP := Lib.hid hnp
        have HFB := Lib.hid hfb
        have HPL := Lib.hid hplt
        have HDB := Lib.hid HH4.out.disk
        have HDL := Lib.hid HH4.out.dlt
        have HND : Hid ((bv p).ownBlock ≠ some d) := Lib.hid fun e => by have h1 := HH4.out.cb p hp4 d e; have h2 := HH4.out.cd; omega
        obtain ⟨b0, cc0, hbv⟩ := OwnB.shape hby.1
        clear fz hnp hfb hplt
        rw [hbv] at f0
        have hob := hby.1
        have hoB := hby.2.1
        rw [hbv] at hob
        have HOB := Lib.hid hoB
        clear hby hoB
        go_wp2_with (at_builtin; refine append_sbp rfl (.tmp 48) (.tmp 49) rfl base _ (s.file p).bytes b a n cc rfl hob rfl HNN.out hsb4 (by have := HBIG.out; omega) hbs4 ?_)
        intro v5 w5 ho5 hp5
        rw [← hbv] at hp5
        obtain ⟨v50, v5c, hv5⟩ := OwnB.shape ho5
        generalize hL5 : ((s.file p).bytes ++ b).length = L5 at hv5
        subst hv5
        have hd5 := (hp5.block p HPL.out HNP.out).trans HFB.out
        have g0 : w5.cell? ⟨p, 0, none⟩ = some (bv p) := by rw [cell_of_row w5 p 0 _ _ _ hd5]; rfl
        have gz := frozen_of_row w5 p 0 _ _ hd5
        obtain ⟨c6, bv6, h6, s6⟩ := HH4.out.setFile (w1 := w5) p hp4 { (tryM s).2.file p with bytes := (s.file p).bytes ++ b } _ _ 0 rfl ho5 (isB_app HOB.out HSB.out.1) (by simp; have := HBIG.out; omega) (fun k' hk1 hk2 => hp5.block k' hk1 hk2) hp5.size hp5.new (hp5.bel base _ ((Below.refl _ _).mono hbs4) (Nat.le_refl _))
        obtain ⟨-, -, -, -, -, -, -, d7, -⟩ := h6.cell
        have f7 := h6.frz 7
        have hdn := (hp5.block d HDL.out HND.out).trans HDB.out
        have d7' : w5.cell? ⟨d, 7, none⟩ = some (.int .i64 s.done) := by rw [cell_of_row w5 d 7 _ _ _ hdn, ← HKE.out.2.2.2.2.2.1]; rfl
        have f7' := frozen_of_row w5 d 7 _ _ hdn
        have HS7 := Lib.hid ((HS4.out.trans s6).trans (Stp.set h6 d 7 (by rw [h6.cd]; decide) (.int .i64 (inc64 s.done))))
        have HH7 := Lib.hid ((h6.setDone (inc64 s.done)).same (s' := { (tryM s).2 with file := updF s.file p { s.file p with bytes := (s.file p).bytes ++ b }, done := inc64 s.done }) (by rw [HKE.out.2.2.2.1]))
        simp only [HKE.out.2.2.2.2.2.1] at d7
        unfold inc64 at HS7 HH7
        clear h6 s6 ho5 hp5 hd5 HOB hob hsb4 HNP HFB HPL hdn
        go_wp2_with fail
        go_ret
        exact HP2.out HTT.out HNF.out _ _ ⟨_, _, _, _, _, by unfold inc64; exact HH7.out⟩ HS7.out
      · have hd0 : decide ((0 : Int) < (n : Int)) = true := by simp; omega
        have HN0 := Lib.hid hn0
        have hn1 : 0 < n := by omega
        clear hn0
        by_cases hfu : s.room < wrap64 (totM s + (n : Int))
        · have hd1 : decide (s.room < wrap64 (totM s + (n : Int))) = true := by simpa using hfu
          have HFU := Lib.hid hfu
          go_upto_region 7 with fail
          refine wp_region_held_drew (S := fun w' => w'.cell? ⟨d, 0, none⟩ = some (.int .i64 s.room)) (by kernel_rfl) r0d (fun hHeld => ?_)
          have HD := Lib.hid (HH3.out.drewN 1)
          have HSD := Lib.hid (HS3.out.drewN 1)
          change Hid (DkAt w3.drew base d (tryM s).2 c fo du pe pl3 bv) at HD
          change Hid (Stp w w3.drew base c c) at HSD
          generalize w3.drew = w4 at *
          refine wpAnyH_take (i := 0) (v := .slice a n cc) rfl (by kernel_rfl) (by kernel_rfl) (by kernel_rfl) (fun _ _ _ h => h) (Or.inl ⟨by rfl, by intro w hSw; (try dsimp only at hSw); go_simp⟩) (by assumption) ?_
          simp only [Act.put, List.getElem_toArray, List.getElem_cons_zero, List.setIfInBounds_toArray, List.set_cons_zero, List.set_cons_succ]
          refine wpAnyH_take (i := 1) (v := .int .i64 (n : Int)) rfl (by kernel_rfl) (by kernel_rfl) (by kernel_rfl) (fun _ _ _ h => h) (Or.inl ⟨by rfl, by intro w hSw; (try dsimp only at hSw); go_simp⟩) (by assumption) ?_
          simp only [Act.put, List.getElem_toArray, List.getElem_cons_zero, List.getElem_cons_succ, List.setIfInBounds_toArray, List.set_cons_zero, List.set_cons_succ]
          refine wpAnyH_take (i := 2) (v := .bool true) rfl (by kernel_rfl) (by kernel_rfl) (by kernel_rfl) (fun _ _ _ h => h) (Or.inl ⟨by rfl, by intro w hSw; (try dsimp only at hSw); go_simp⟩) (by assumption) ?_
          simp only [Act.put, List.getElem_toArray, List.getElem_cons_zero, List.getElem_cons_succ, List.setIfInBounds_toArray, List.set_cons_zero, List.set_cons_succ]
          refine wpAnyH_take (i := 3) (v := .bool true) rfl (by kernel_rfl) (by kernel_rfl) (by kernel_rfl) (fun _ _ _ h => h) (Or.inl ⟨by rfl, by intro w hSw; (try dsimp only at hSw); go_simp⟩) (by assumption) ?_
          simp only [Act.put, List.getElem_toArray, List.getElem_cons_zero, List.getElem_cons_succ, List.setIfInBounds_toArray, List.set_cons_zero, List.set_cons_succ]
          refine wpAnyH_take (i := 4) (v := .pointer (some ⟨d, 0, none⟩)) rfl (by kernel_rfl) (by kernel_rfl) (by kernel_rfl) (fun _ _ _ h => h) (Or.inl ⟨by rfl, by intro w hSw; (try dsimp only at hSw); go_simp⟩) (by assumption) ?_
          simp only [Act.put, List.getElem_toArray, List.getElem_cons_zero, List.getElem_cons_succ, List.setIfInBounds_toArray, List.set_cons_zero, List.set_cons_succ]
          refine wpAnyH_take (i := 5) (v := .pointer (some ⟨d, 0, none⟩)) rfl (by kernel_rfl) (by kernel_rfl) (by kernel_rfl) (fun _ _ _ h => h) (Or.inl ⟨by rfl, by intro w hSw; (try dsimp only at hSw); go_simp⟩) (by assumption) ?_
          simp only [Act.put, List.getElem_toArray, List.getElem_cons_zero, List.getElem_cons_succ, List.setIfInBounds_toArray, List.set_cons_zero, List.set_cons_succ]
          refine wpAnyH_take (i := 6) (v := .pointer (some ⟨d, 0, none⟩)) rfl (by kernel_rfl) (by kernel_rfl) (by kernel_rfl) (fun _ _ _ h => h) (Or.inl ⟨by rfl, by intro w hSw; (try dsimp only at hSw); go_simp⟩) (by assumption) ?_
          simp only [Act.put, List.getElem_toArray, List.getElem_cons_zero, List.getElem_cons_succ, List.setIfInBounds_toArray, List.set_cons_zero, List.set_cons_succ]
          refine wpAnyH_take (i := 8) (v := .slice a n cc) rfl (by kernel_rfl) (by kernel_rfl) (by kernel_rfl) (fun _ _ _ h => h) (Or.inl ⟨by rfl, by intro w hSw; (try dsimp only at hSw); go_simp⟩) (by assumption) ?_
          simp only [Act.put, List.getElem_toArray, List.getElem_cons_zero, List.getElem_cons_succ, List.setIfInBounds_toArray, List.set_cons_zero, List.set_cons_succ]
          refine wpAnyH_take (i := 9) (v := .int .i64 (n : Int)) rfl (by kernel_rfl) (by kernel_rfl) (by kernel_rfl) (fun _ _ _ h => h) (Or.inl ⟨by rfl, by intro w hSw; (try dsimp only at hSw); go_simp⟩) (by assumption) ?_
          simp only [Act.put, List.getElem_toArray, List.getElem_cons_zero, List.getElem_cons_succ, List.setIfInBounds_toArray, List.set_cons_zero, List.set_cons_succ]
          refine wpAnyH_take (i := 11) (v := .pointer (some ⟨d, 0, none⟩)) rfl (by kernel_rfl) (by kernel_rfl) (by kernel_rfl) (fun _ _ _ h => h) (Or.inl ⟨by rfl, by intro w hSw; (try dsimp only at hSw); go_simp⟩) (by assumption) ?_
          simp only [Act.put, List.getElem_toArray, List.getElem_cons_zero, List.getElem_cons_succ, List.setIfInBounds_toArray, List.set_cons_zero, List.set_cons_succ]
          refine wpAnyH_take (i := 12) (v := .pointer (some ⟨d, 0, none⟩)) rfl (by kernel_rfl) (by kernel_rfl) (by kernel_rfl) (fun _ _ _ h => h) (Or.inl ⟨by rfl, by intro w hSw; (try dsimp only at hSw); go_simp⟩) (by assumption) ?_
          simp only [Act.put, List.getElem_toArray, List.getElem_cons_zero, List.getElem_cons_succ, List.setIfInBounds_toArray, List.set_cons_zero, List.set_cons_succ]
          refine wpAnyH_take (i := 13) (v := .pointer (some ⟨d, 0, none⟩)) rfl (by kernel_rfl) (by kernel_rfl) (by kernel_rfl) (fun _ _ _ h => h) (Or.inl ⟨by rfl, by intro w hSw; (try dsimp only at hSw); go_simp⟩) (by assumption) ?_
          simp only [Act.put, List.getElem_toArray, List.getElem_cons_zero, List.getElem_cons_succ, List.setIfInBounds_toArray, List.set_cons_zero, List.set_cons_succ]
          refine wpAnyH_take (i := 14) (v := .pointer (some ⟨d, 0, none⟩)) rfl (by kernel_rfl) (by kernel_rfl) (by kernel_rfl) (fun _ _ _ h => h) (Or.inl ⟨by rfl, by intro w hSw; (try dsimp only at hSw); go_simp⟩) (by assumption) ?_
          simp only [Act.put, List.getElem_toArray, List.getElem_cons_zero, List.getElem_cons_succ, List.setIfInBounds_toArray, List.set_cons_zero, List.set_cons_succ]
          refine wpAnyH_take (i := 15) (v := .int .i64 s.room) rfl (by kernel_rfl) (by kernel_rfl) (by kernel_rfl) (fun _ _ _ h => h) (Or.inl ⟨by rfl, by intro w hSw; (try dsimp only at hSw); go_simp⟩) (by assumption) ?_
          simp only [Act.put, List.getElem_toArray, List.getElem_cons_zero, List.getElem_cons_succ, List.setIfInBounds_toArray, List.set_cons_zero, List.set_cons_succ]
          refine wpAnyH_ready (rs := [7]) (by kernel_rfl) (by simp) ?_
          refine AllReadyH.cons rfl (fun K hK => ?_) AllReadyH.nil
          go_simp
          have hto := total_any HD.out
          rw [HTOT.out] at hto
          unfold ptD at hto
          refine hto.mono ?_
          rintro e wn ⟨rfl, hbn⟩
          replace hHeld := ((hbn.cell HD.out.dlt).trans hHeld)
          refine hK.out _ _ hHeld (fun hHeld => ?_)
          have HH4 := Lib.hid (HD.out.below hbn)
          have HS4 := Lib.hid (HSD.out.trans (Stp.below c hbn HD.out.base_le))
          clear hK K hbn hto
          have hwr := IntWalk.i64_left (totM s + (n : Int))
          refine wpAnyH_take (i := 10) (v := .int .i64 (wrap64 (totM s + (n : Int)))) rfl (by kernel_rfl) (by kernel_rfl) (by kernel_rfl) (fun _ _ _ h => h) (Or.inl ⟨by rfl, by intro w hSw; (try dsimp only at hSw); go_simp⟩) (by assumption) ?_
          simp only [Act.put, List.getElem_toArray, List.getElem_cons_zero, List.getElem_cons_succ, List.setIfInBounds_toArray, List.set_cons_zero, List.set_cons_succ]
          refine wpAnyH_take (i := 16) (v := .bool true) rfl (by kernel_rfl) (by kernel_rfl) (by kernel_rfl) (fun _ _ _ h => h) (Or.inl ⟨by rfl, by intro w hSw; (try dsimp only at hSw); go_simp⟩) (by assumption) ?_
          simp only [Act.put, List.getElem_toArray, List.getElem_cons_zero, List.getElem_cons_succ, List.setIfInBounds_toArray, List.set_cons_zero, List.set_cons_succ]
          refine wpAnyH_take (i := 17) (v := .bool true) rfl (by kernel_rfl) (by kernel_rfl) (by kernel_rfl) (fun _ _ _ h => h) (Or.inl ⟨by rfl, by intro w hSw; (try dsimp only at hSw); go_simp⟩) (by assumption) ?_
          simp only [Act.put, List.getElem_toArray, List.getElem_cons_zero, List.getElem_cons_succ, List.setIfInBounds_toArray, List.set_cons_zero, List.set_cons_succ]
          refine wpAnyH_done (by kernel_rfl) ?_ _
          go_wp2_with fail
          go_ret
          exact HP3.out HTT.out HN0.out HFU.out _ ⟨_, _, _, _, _, HH4.out⟩ HS4.out
        · have hd1 : decide (s.room < wrap64 (totM s + (n : Int))) = false := by simpa using hfu
          have HNF : Hid (¬ (n ≠ 0 ∧ s.room < wrap64 (totM s + (n : Int)))) := Lib.hid fun e => hfu e.2
          have hfu' : wrap64 (totM s + (n : Int)) ≤ s.room := by omega
          go_upto_region 7 with fail
          refine wp_region_held_drew (S := fun w' => w'.cell? ⟨d, 0, none⟩ = some (.int .i64 s.room)) (by kernel_rfl) r0d (fun hHeld => ?_)
          have HD := Lib.hid (HH3.out.drewN 1)
          have HSD := Lib.hid (HS3.out.drewN 1)
          change Hid (DkAt w3.drew base d (tryM s).2 c fo du pe pl3 bv) at HD
          change Hid (Stp w w3.drew base c c) at HSD
          generalize w3.drew = w4 at *
          refine wpAnyH_take (i := 0) (v := .slice a n cc) rfl (by kernel_rfl) (by kernel_rfl) (by kernel_rfl) (fun _ _ _ h => h) (Or.inl ⟨by rfl, by intro w hSw; (try dsimp only at hSw); go_simp⟩) (by assumption) ?_
          simp only [Act.put, List.getElem_toArray, List.getElem_cons_zero, List.setIfInBounds_toArray, List.set_cons_zero, List.set_cons_succ]
          refine wpAnyH_take (i := 1) (v := .int .i64 (n : Int)) rfl (by kernel_rfl) (by kernel_rfl) (by kernel_rfl) (fun _ _ _ h => h) (Or.inl ⟨by rfl, by intro w hSw; (try dsimp only at hSw); go_simp⟩) (by assumption) ?_
          simp only [Act.put, List.getElem_toArray, List.getElem_cons_zero, List.getElem_cons_succ, List.setIfInBounds_toArray, List.set_cons_zero, List.set_cons_succ]
          refine wpAnyH_take (i := 2) (v := .bool true) rfl (by kernel_rfl) (by kernel_rfl) (by kernel_rfl) (fun _ _ _ h => h) (Or.inl ⟨by rfl, by intro w hSw; (try dsimp only at hSw); go_simp⟩) (by assumption) ?_
          simp only [Act.put, List.getElem_toArray, List.getElem_cons_zero, List.getElem_cons_succ, List.setIfInBounds_toArray, List.set_cons_zero, List.set_cons_succ]
          refine wpAnyH_take (i := 3) (v := .bool true) rfl (by kernel_rfl) (by kernel_rfl) (by kernel_rfl) (fun _ _ _ h => h) (Or.inl ⟨by rfl, by intro w hSw; (try dsimp only at hSw); go_simp⟩) (by assumption) ?_
          simp only [Act.put, List.getElem_toArray, List.getElem_cons_zero, List.getElem_cons_succ, List.setIfInBounds_toArray, List.set_cons_zero, List.set_cons_succ]
          refine wpAnyH_take (i := 4) (v := .pointer (some ⟨d, 0, none⟩)) rfl (by kernel_rfl) (by kernel_rfl) (by kernel_rfl) (fun _ _ _ h => h) (Or.inl ⟨by rfl, by intro w hSw; (try dsimp only at hSw); go_simp⟩) (by assumption) ?_
          simp only [Act.put, List.getElem_toArray, List.getElem_cons_zero, List.getElem_cons_succ, List.setIfInBounds_toArray, List.set_cons_zero, List.set_cons_succ]
          refine wpAnyH_take (i := 5) (v := .pointer (some ⟨d, 0, none⟩)) rfl (by kernel_rfl) (by kernel_rfl) (by kernel_rfl) (fun _ _ _ h => h) (Or.inl ⟨by rfl, by intro w hSw; (try dsimp only at hSw); go_simp⟩) (by assumption) ?_
          simp only [Act.put, List.getElem_toArray, List.getElem_cons_zero, List.getElem_cons_succ, List.setIfInBounds_toArray, List.set_cons_zero, List.set_cons_succ]
          refine wpAnyH_take (i := 6) (v := .pointer (some ⟨d, 0, none⟩)) rfl (by kernel_rfl) (by kernel_rfl) (by kernel_rfl) (fun _ _ _ h => h) (Or.inl ⟨by rfl, by intro w hSw; (try dsimp only at hSw); go_simp⟩) (by assumption) ?_
          simp only [Act.put, List.getElem_toArray, List.getElem_cons_zero, List.getElem_cons_succ, List.setIfInBounds_toArray, List.set_cons_zero, List.set_cons_succ]
          refine wpAnyH_take (i := 8) (v := .slice a n cc) rfl (by kernel_rfl) (by kernel_rfl) (by kernel_rfl) (fun _ _ _ h => h) (Or.inl ⟨by rfl, by intro w hSw; (try dsimp only at hSw); go_simp⟩) (by assumption) ?_
          simp only [Act.put, List.getElem_toArray, List.getElem_cons_zero, List.getElem_cons_succ, List.setIfInBounds_toArray, List.set_cons_zero, List.set_cons_succ]
          refine wpAnyH_take (i := 9) (v := .int .i64 (n : Int)) rfl (by kernel_rfl) (by kernel_rfl) (by kernel_rfl) (fun _ _ _ h => h) (Or.inl ⟨by rfl, by intro w hSw; (try dsimp only at hSw); go_simp⟩) (by assumption) ?_
          simp only [Act.put, List.getElem_toArray, List.getElem_cons_zero, List.getElem_cons_succ, List.setIfInBounds_toArray, List.set_cons_zero, List.set_cons_succ]
          refine wpAnyH_take (i := 11) (v := .pointer (some ⟨d, 0, none⟩)) rfl (by kernel_rfl) (by kernel_rfl) (by kernel_rfl) (fun _ _ _ h => h) (Or.inl ⟨by rfl, by intro w hSw; (try dsimp only at hSw); go_simp⟩) (by assumption) ?_
          simp only [Act.put, List.getElem_toArray, List.getElem_cons_zero, List.getElem_cons_succ, List.setIfInBounds_toArray, List.set_cons_zero, List.set_cons_succ]
          refine wpAnyH_take (i := 12) (v := .pointer (some ⟨d, 0, none⟩)) rfl (by kernel_rfl) (by kernel_rfl) (by kernel_rfl) (fun _ _ _ h => h) (Or.inl ⟨by rfl, by intro w hSw; (try dsimp only at hSw); go_simp⟩) (by assumption) ?_
          simp only [Act.put, List.getElem_toArray, List.getElem_cons_zero, List.getElem_cons_succ, List.setIfInBounds_toArray, List.set_cons_zero, List.set_cons_succ]
          refine wpAnyH_take (i := 13) (v := .pointer (some ⟨d, 0, none⟩)) rfl (by kernel_rfl) (by kernel_rfl) (by kernel_rfl) (fun _ _ _ h => h) (Or.inl ⟨by rfl, by intro w hSw; (try dsimp only at hSw); go_simp⟩) (by assumption) ?_
          simp only [Act.put, List.getElem_toArray, List.getElem_cons_zero, List.getElem_cons_succ, List.setIfInBounds_toArray, List.set_cons_zero, List.set_cons_succ]
          refine wpAnyH_take (i := 14) (v := .pointer (some ⟨d, 0, none⟩)) rfl (by kernel_rfl) (by kernel_rfl) (by kernel_rfl) (fun _ _ _ h => h) (Or.inl ⟨by rfl, by intro w hSw; (try dsimp only at hSw); go_simp⟩) (by assumption) ?_
          simp only [Act.put, List.getElem_toArray, List.getElem_cons_zero, List.getElem_cons_succ, List.setIfInBounds_toArray, List.set_cons_zero, List.set_cons_succ]
          refine wpAnyH_take (i := 15) (v := .int .i64 s.room) rfl (by kernel_rfl) (by kernel_rfl) (by kernel_rfl) (fun _ _ _ h => h) (Or.inl ⟨by rfl, by intro w hSw; (try dsimp only at hSw); go_simp⟩) (by assumption) ?_
          simp only [Act.put, List.getElem_toArray, List.getElem_cons_zero, List.getElem_cons_succ, List.setIfInBounds_toArray, List.set_cons_zero, List.set_cons_succ]
          refine wpAnyH_ready (rs := [7]) (by kernel_rfl) (by simp) ?_
          refine AllReadyH.cons rfl (fun K hK => ?_) AllReadyH.nil
          go_simp
          have hto := total_any HD.out
          rw [HTOT.out] at hto
          unfold ptD at hto
          refine hto.mono ?_
          rintro e wn ⟨rfl, hbn⟩
          replace hHeld := ((hbn.cell HD.out.dlt).trans hHeld)
          refine hK.out _ _ hHeld (fun hHeld => ?_)
          have HH4 := Lib.hid (HD.out.below hbn)
          have HS4 := Lib.hid (HSD.out.trans (Stp.below c hbn HD.out.base_le))
          clear hK K hbn hto
          have hwr := IntWalk.i64_left (totM s + (n : Int))
          refine wpAnyH_take (i := 10) (v := .int .i64 (wrap64 (totM s + (n : Int)))) rfl (by kernel_rfl) (by kernel_rfl) (by kernel_rfl) (fun _ _ _ h => h) (Or.inl ⟨by rfl, by intro w hSw; (try dsimp only at hSw); go_simp⟩) (by assumption) ?_
          simp only [Act.put, List.getElem_toArray, List.getElem_cons_zero, List.getElem_cons_succ, List.setIfInBounds_toArray, List.set_cons_zero, List.set_cons_succ]
          refine wpAnyH_take (i := 16) (v := .bool false) rfl (by kernel_rfl) (by kernel_rfl) (by kernel_rfl) (fun _ _ _ h => h) (Or.inl ⟨by rfl, by intro w hSw; (try dsimp only at hSw); go_simp⟩) (by assumption) ?_
          simp only [Act.put, List.getElem_toArray, List.getElem_cons_zero, List.getElem_cons_succ, List.setIfInBounds_toArray, List.set_cons_zero, List.set_cons_succ]
          refine wpAnyH_take (i := 17) (v := .bool false) rfl (by kernel_rfl) (by kernel_rfl) (by kernel_rfl) (fun _ _ _ h => h) (Or.inl ⟨by rfl, by intro w hSw; (try dsimp only at hSw); go_simp⟩) (by assumption) ?_
          simp only [Act.put, List.getElem_toArray, List.getElem_cons_zero, List.getElem_cons_succ, List.setIfInBounds_toArray, List.set_cons_zero, List.set_cons_succ]
          refine wpAnyH_done (by kernel_rfl) ?_ _
          have hp4 := HP3'.out
          obtain ⟨f0, -, -, fz⟩ := HH4.out.fcell hp4
          have fz0 := fz 0
          have hby := HH4.out.byt p hp4
          rw [HKE.out.2.2.2.1] at hby
          have hsb4 := HFAR.out _ HS4.out
          have hbs4 := HH4.out.base_le
          have hplt := HH4.out.plt hp4
          have hnp : (bv p).ownBlock ≠ some p := fun e => by have h1 := HH4.out.cb p hp4 p e; have h2 := (HH4.out.file p hp4).2; omega
          have hfb := (HH4.out.file p hp4).1
          have HNP := Lib.hid hnp
          have HFB := Lib.hid hfb
          have HPL := Lib.hid hplt
          have HDB := Lib.hid HH4.out.disk
          have HDL := Lib.hid HH4.out.dlt
          have HND : Hid ((bv p).ownBlock ≠ some d) := Lib.hid fun e => by have h1 := HH4.out.cb p hp4 d e; have h2 := HH4.out.cd; omega
          obtain ⟨b0, cc0, hbv⟩ := OwnB.shape hby.1
          clear fz hnp hfb hplt
          rw [hbv] at f0
          have hob := hby.1
          have hoB := hby.2.1
          rw [hbv] at hob
          have HOB := Lib.hid hoB
          clear hby hoB
          go_wp2_with (at_builtin; refine append_sbp rfl (.tmp 48) (.tmp 49) rfl base _ (s.file p).bytes b a n cc rfl hob rfl HNN.out hsb4 (by have := HBIG.out; omega) hbs4 ?_)
          intro v5 w5 ho5 hp5
          rw [← hbv] at hp5
          obtain ⟨v50, v5c, hv5⟩ := OwnB.shape ho5
          generalize hL5 : ((s.file p).bytes ++ b).length = L5 at hv5
          subst hv5
          have hd5 := (hp5.block p HPL.out HNP.out).trans HFB.out
          have g0 : w5.cell? ⟨p, 0, none⟩ = some (bv p) := by rw [cell_of_row w5 p 0 _ _ _ hd5]; rfl
          have gz := frozen_of_row w5 p 0 _ _ hd5
          obtain ⟨c6, bv6, h6, s6⟩ := HH4.out.setFile (w1 := w5) p hp4 { (tryM s).2.file p with bytes := (s.file p).bytes ++ b } _ _ 0 rfl ho5 (isB_app HOB.out HSB.out.1) (by simp; have := HBIG.out; omega) (fun k' hk1 hk2 => hp5.block k' hk1 hk2) hp5.size hp5.new (hp5.bel base _ ((Below.refl _ _).mono hbs4) (Nat.le_refl _))
          obtain ⟨-, -, -, -, -, -, -, d7, -⟩ := h6.cell
          have f7 := h6.frz 7
          have hdn := (hp5.block d HDL.out HND.out).trans HDB.out
          have d7' : w5.cell? ⟨d, 7, none⟩ = some (.int .i64 s.done) := by rw [cell_of_row w5 d 7 _ _ _ hdn, ← HKE.out.2.2.2.2.2.1]; rfl
          have f7' := frozen_of_row w5 d 7 _ _ hdn
          have HS7 := Lib.hid ((HS4.out.trans s6).trans (Stp.set h6 d 7 (by rw [h6.cd]; decide) (.int .i64 (inc64 s.done))))
          have HH7 := Lib.hid ((h6.setDone (inc64 s.done)).same (s' := { (tryM s).2 with file := updF s.file p { s.file p with bytes := (s.file p).bytes ++ b }, done := inc64 s.done }) (by rw [HKE.out.2.2.2.1]))
          simp only [HKE.out.2.2.2.2.2.1] at d7
          unfold inc64 at HS7 HH7
          clear h6 s6 ho5 hp5 hd5 HOB hob hsb4 HNP HFB HPL hdn
          go_wp2_with fail
          go_ret
          exact HP2.out HTT.out HNF.out _ _ ⟨_, _, _, _, _, by unfold inc64; exact HH7.out⟩ HS7.out
    · have ht0 : (T != 0) = true := by simpa using ht
      have HTN := Lib.hid ht
      clear ht h3 s3
      go_wp2_with fail
      go_ret
      exact HP1.out HTN.out _ ⟨_, _, _, _, _, HH3.out⟩ HS3.out
end
end Go.Proofs.Ytaeiijncklmfdaa
