/-
  galleylaw03.Swap.swapped.
-/
import Derived.Test.YtaeiijncklmfdaaDkK
import Derived.Test.YtaeiijncklmfdaaLists
namespace Go.Proofs.Ytaeiijncklmfdaa
open Go.RowKit

/-- Where the calls have come to. -/
def SwSt (s : DkS) (p q : Nat) (old F : List Int) (last al : Bool) : Prop :=
  (StA s p old ∧ al = false) ∨ (∃ acc sy, StB s p q old acc sy ∧ 0 ≤ sy ∧ sy ≤ (acc.length : Int) ∧ al = false) ∨ (StD s p q old F ∧ (al = true → last = false)) ∨ (StE s p q old F ∧ al = true)
def callsN (n : Nat) (last : Bool) : Nat := n + 3 + if last then 1 else 0
def SwPost (w : World) (base d : Nat) (c : Nat → Nat) (p : Nat) (old F : List Int) (last : Bool) (At : Int) (n : Nat) (e : Ending) (w' : World) : Prop :=
  ∃ al s' c' q, e = .returned (.bool al) ∧ Dk w' base d s' c' ∧ Stp w w' base c c' ∧ s'.power = al ∧ (al = true ↔ (At < 1 ∨ ((callsN n last : Nat) : Int) < At)) ∧ SwSt s' p q old F last al
def swCells (vo vp : Value) (At : Int) (last : Bool) (dir : Int) (vk : Value) : Array Value := #[vo, vp, .int .i64 At, .bool last, .int .i64 dir, vk]
theorem Dk.stp0 {w : World} {base d : Nat} {s : DkS} {c : Nat → Nat} (h : Dk w base d s c) : Stp w w base c c := Stp.refl _ _ _ h.base_le
theorem RB.stp {w0 w w' : World} {base : Nat} {c c' : Nat → Nat} {v : Value} {r : List (List Int)} (h : RB w0 v r) (hb0 : w0.heap.size ≤ base) (hb : Below w0.heap.size w0 w) (hs : Stp w w' base c c') : RB w' v r := h.below (hb.trans (hs.bel.mono hb0))
theorem take_flat_le (l : List (List Int)) (k : Nat) : (l.take k).flatten.length ≤ l.flatten.length := by
  have h : l.flatten = (l.take k).flatten ++ (l.drop k).flatten := by rw [← List.flatten_append, List.take_append_drop]
  rw [h, List.length_append]
  omega
set_option maxRecDepth 100000 in
set_option maxHeartbeats 4000000 in
theorem swapped_any (w0 w : World) {base d : Nat} {s : DkS} {c : Nat → Nat} (h0 : Dk w base d s c) (hb0 : w0.heap.size ≤ base) (hbw : Below w0.heap.size w0 w) (p : Nat) (old : List Int) (At : Int) (hA : StA s p old) (hW : Way s At 0) (oa : Option Addr) (on oc : Nat) (pa : Option Addr) (n pc : Nat) (parts : List (List Int))
    (hrb : RB w0 (.slice pa n pc) parts) (last : Bool) (dir : Int) (ka : Option Addr) (kn kc : Nat) (hsz : old.length + parts.flatten.length ≤ 16777216) :
    Calls Try.prog 29 #[.agg (swCells (.slice oa on oc) (.slice pa n pc) At last dir (.slice ka kn kc)), ptD d] w (SwPost w base d c p old parts.flatten last At n) := by
  have hrl := hrb.len
  have HRB := Lib.hid hrb
  have hal := (Below.refl w.heap.size w).alloc (Nat.le_refl _) (.cells (swCells (.slice oa on oc) (.slice pa n pc) At last dir (.slice ka kn kc)) 57)
  have hbx : (w.alloc (.cells (swCells (.slice oa on oc) (.slice pa n pc) At last dir (.slice ka kn kc)) 57)).heap[w.heap.size]? = some (.cells (swCells (.slice oa on oc) (.slice pa n pc) At last dir (.slice ka kn kc)) 57 (0, 0)) := heap_alloc_new w _
  have hD := h0.below hal
  have hS := Stp.below c hal h0.base_le
  have hcB := h0.high w.heap.size (Nat.le_refl _)
  have HBX : Hid (∀ w' c', Stp (w.alloc (.cells (swCells (.slice oa on oc) (.slice pa n pc) At last dir (.slice ka kn kc)) 57)) w' base c c' → w'.cell? ⟨w.heap.size, 1, none⟩ = some (.slice pa n pc) ∧ w'.cell? ⟨w.heap.size, 3, none⟩ = some (.bool last)) := Lib.hid fun w' c' hs => by
    have hb := (hs.keep w.heap.size (by simp) hcB).trans hbx
    exact ⟨by rw [cell_of_row w' _ 1 _ _ _ hb]; rfl, by rw [cell_of_row w' _ 3 _ _ _ hb]; rfl⟩
  have HW0 := Lib.hid (hbw.trans (hS.bel.mono hb0))
  have HD := Lib.hid hD
  have HS := Lib.hid hS
  have HA := Lib.hid hA
  have HWy := Lib.hid hW
  have HSZ := Lib.hid hsz
  have HB0 := Lib.hid hb0
  clear hD hS hA hW hsz hb0 hbx hal hrb h0 hbw hcB
  have hpd : s.pending.length ≤ 1000000000000 := by rw [HA.out.pe]; simp
  have HM := Lib.hid (make_yes HD.out kN nmN hpd)
  unfold swCells at *
  unfold ptD at *
  go_enter Try.func29, Try.ntmps29
  go_wp2_with fail
  generalize w.alloc (.cells #[.slice oa on oc, .slice pa n pc, .int .i64 At, .bool last, .int .i64 dir, .slice ka kn kc] 57) = wx at *
  generalize w.heap.size = B at *
  refine HM.out.mono ?_
  rintro e w2 ⟨q, hq, he, c2, h2, s2⟩
  have HS2 := Lib.hid s2
  obtain ⟨hit, ok⟩ := make_step HWy.out HA.out (by omega) hq
  have hcl : (1 : Int) ≤ ((callsN n last : Nat) : Int) := by unfold callsN; omega
  by_cases h1 : At = 1
  · obtain ⟨s', hm, hp', hA'⟩ := hit (by rw [h1]; rfl)
    rw [hm] at he h2
    subst he
    have HP : Hid (SwPost w base d c p old parts.flatten last At n (.returned (.bool false)) w2) := Lib.hid ⟨false, s', c2, q, rfl, h2, HS.out.trans HS2.out, hp', ⟨(fun e => by cases e), fun e => by omega⟩, .inl ⟨hA', rfl⟩⟩
    clear hit ok h2 s2 hm
    go_wp2_with fail
    go_ret
    exact HP.out
  · obtain ⟨s', hm, hw', hB'⟩ := ok (by intro e; exact h1 (by rw [e]; rfl))
    rw [hm] at he h2
    subst he
    have H2 := Lib.hid h2
    have HW2 := Lib.hid hw'
    have HBB := Lib.hid hB'
    have HN1 := Lib.hid h1
    clear hit ok h2 s2 hm hw' hB' h1 hpd HM
    go_wp2_with fail
    go_loopw [5] (fun x wr => ∃ (i : Nat) (si : DkS) (ci : Nat → Nat), x = .int .i64 i ∧ i ≤ n ∧ Dk wr base d si ci ∧ Stp wx wr base c ci ∧ Way si At (i + 1) ∧ StB si p q old (parts.take i).flatten 0 ∧ (At < 1 ∨ ((i + 1 : Nat) : Int) < At)) (fun x _ => n - (intOf x).toNat)
    case atStart => exact ⟨0, s', c2, rfl, Nat.zero_le _, H2.out, HS2.out, HW2.out, HBB.out, by have := HN1.out; omega⟩
    case round =>
      obtain ⟨i, si, ci, rfl, hi, hdi, hsi, hwi, hbi, hati⟩ := hrel
      obtain ⟨b1, b3⟩ := HBX.out wr ci hsi
      have HDI := Lib.hid hdi
      have HSI := Lib.hid hsi
      have HWI := Lib.hid hwi
      have HBI := Lib.hid hbi
      have HAT := Lib.hid hati
      clear hdi hsi hwi hbi hati H2 HW2 HBB HS2
      by_cases hin : i = n
      · have hid' : decide (i < n) = false := by simp; omega
        have hft : (parts.take i).flatten = parts.flatten := by rw [hin, ← hrl.1, List.take_length]
        rw [hft] at HBI
        have hsy := sync_yes HDI.out kN nmN
        obtain ⟨hit, ok⟩ := sync_step HWI.out HBI.out (by omega)
        have HCN : Hid (callsN n last = n + 3 + if last then 1 else 0) := Lib.hid rfl
        unfold ptD at hsy
        have HSYN := Lib.hid hsy
        have HIN := Lib.hid hin
        have HHIT := Lib.hid hit
        have HOK := Lib.hid ok
        clear hft hsy hit ok hin
        go_wp2_with fail
        refine HSYN.out.mono ?_
        rintro e w5 ⟨he, c5, h5, s5⟩
        by_cases hAt : At = ((n + 2 : Nat) : Int)
        · obtain ⟨s5', hm5, hp5, hB5⟩ := HHIT.out (by rw [hAt, HIN.out])
          rw [hm5] at he h5
          subst he
          have HP : Hid (SwPost w base d c p old parts.flatten last At n (.returned (.bool false)) w5) := Lib.hid ⟨false, s5', c5, q, rfl, h5, (HS.out.trans HSI.out).trans s5, hp5, ⟨(fun e => by cases e), fun e => by have := HCN.out; omega⟩, .inr (.inl ⟨_, 0, hB5, Int.le_refl _, by omega, rfl⟩)⟩
          clear h5 s5 hm5 hAt
          go_wp2_with fail
          go_ret
          exact HP.out
        · obtain ⟨s5', hm5, hw5, hB5⟩ := HOK.out (by intro e; exact hAt (by rw [e, HIN.out]))
          rw [hm5] at he h5
          subst he
          have H5 := Lib.hid h5
          have HS5 := Lib.hid (HSI.out.trans s5)
          have HA5 : Hid (At < 1 ∨ ((n + 2 : Nat) : Int) < At) := Lib.hid (by have := HAT.out; have := HIN.out; omega)
          have hrn := rename_yes H5.out kN nmN kF nmF (by rw [hB5.pe]; simp)
          obtain ⟨hit6, ok6⟩ := rename_step hw5 hB5 (by omega)
          unfold ptD at hrn
          have HRN := Lib.hid hrn
          have HHIT6 := Lib.hid hit6
          have HOK6 := Lib.hid ok6
          clear h5 s5 hm5 hw5 hB5 hAt hrn hit6 ok6
          go_wp2_with fail
          refine HRN.out.mono ?_
          rintro e w6 ⟨he, c6, h6, s6⟩
          by_cases hAt : At = ((n + 3 : Nat) : Int)
          · obtain ⟨s6', hm6, hp6, hB6⟩ := HHIT6.out (by rw [hAt, HIN.out])
            rw [hm6] at he h6
            subst he
            have HP : Hid (SwPost w base d c p old parts.flatten last At n (.returned (.bool false)) w6) := Lib.hid ⟨false, s6', c6, q, rfl, h6, (HS.out.trans HS5.out).trans s6, hp6, ⟨(fun e => by cases e), fun e => by have := HCN.out; omega⟩, .inr (.inl ⟨_, _, hB6, by omega, Int.le_refl _, rfl⟩)⟩
            obtain ⟨-, b36⟩ := HBX.out w6 c6 (HS5.out.trans s6)
            clear h6 s6 hm6 hAt
            go_wp2_with fail
            go_ret
            exact HP.out
          · obtain ⟨s6', hm6, hw6, hD6⟩ := HOK6.out (by intro e; exact hAt (by rw [e, HIN.out]))
            rw [hm6] at he h6
            subst he
            have H6 := Lib.hid h6
            have HS6 := Lib.hid (HS5.out.trans s6)
            have HA6 : Hid (At < 1 ∨ ((n + 3 : Nat) : Int) < At) := Lib.hid (by have := HA5.out; omega)
            obtain ⟨-, b36⟩ := HBX.out w6 c6 (HS5.out.trans s6)
            have HD6 := Lib.hid hD6
            have HW6 := Lib.hid hw6
            clear h6 s6 hm6 hAt hD6 hw6
            cases hlast : last with
            | false =>
              rw [hlast] at b36
              have HP : Hid (SwPost w base d c p old parts.flatten last At n (.returned (.bool true)) w6) := Lib.hid ⟨true, s6', c6, q, rfl, H6.out, HS.out.trans HS6.out, HW6.out.power, ⟨fun _ => by have h1 := HCN.out; have h2 := HA6.out; rw [hlast] at h1; simp at h1; rw [hlast]; omega, fun _ => rfl⟩, .inr (.inr (.inl ⟨HD6.out, fun _ => hlast⟩))⟩
              go_wp2_with fail
              go_ret
              exact HP.out
            | true =>
              rw [hlast] at b36
              have hsd := syncDir_yes H6.out
              obtain ⟨hit7, ok7⟩ := dir_step HW6.out HD6.out (by omega)
              unfold ptD at hsd
              have HSD := Lib.hid hsd
              have HHIT7 := Lib.hid hit7
              have HOK7 := Lib.hid ok7
              clear hsd hit7 ok7
              go_wp2_with fail
              refine HSD.out.mono ?_
              rintro e w7 ⟨he, c7, h7, s7⟩
              by_cases hAt : At = ((n + 4 : Nat) : Int)
              · obtain ⟨s7', hm7, hp7, hB7⟩ := HHIT7.out (by rw [hAt, HIN.out])
                rw [hm7] at he h7
                subst he
                have HP : Hid (SwPost w base d c p old parts.flatten last At n (.returned (.bool false)) w7) := Lib.hid ⟨false, s7', c7, q, rfl, h7, (HS.out.trans HS6.out).trans s7, hp7, ⟨(fun e => by cases e), fun e => by have h1 := HCN.out; rw [hlast] at h1 e; simp at h1; omega⟩, .inr (.inr (.inl ⟨hB7, fun e => by cases e⟩))⟩
                clear h7 s7 hm7 hAt
                go_wp2_with fail
                go_ret
                exact HP.out
              · obtain ⟨s7', hm7, hw7, hE7⟩ := HOK7.out (by intro e; exact hAt (by rw [e, HIN.out]))
                rw [hm7] at he h7
                subst he
                have HP : Hid (SwPost w base d c p old parts.flatten last At n (.returned (.bool true)) w7) := Lib.hid ⟨true, s7', c7, q, rfl, h7, (HS.out.trans HS6.out).trans s7, hw7.power, ⟨fun _ => by have h1 := HCN.out; have h2 := HA6.out; rw [hlast] at h1; simp at h1; rw [hlast]; omega, fun _ => rfl⟩, .inr (.inr (.inr ⟨hE7, rfl⟩))⟩
                clear h7 s7 hm7 hAt
                go_wp2_with fail
                go_ret
                exact HP.out
      · have hid' : decide (i < n) = true := by simp; omega
        have hil : i < n := by omega
        obtain ⟨g, o, hpa, hrd⟩ := HRB.out.read i hil
        subst hpa
        obtain ⟨ad, m, cc, q00, sb0, hmc, hadn⟩ := hrd i hil
        have hbi0 := HW0.out.trans (HSI.out.bel.mono HB0.out)
        have q0 := (hbi0.cell (World.block_lt_of_cell? w0 _ q00)).trans q00
        have sb := sb0.below hbi0
        have hst : ∀ w', Stp wr w' base ci ci → SB w' (.slice ad m cc) (parts[i]?.getD []) := fun w' hs => sb0.below (hbi0.trans (hs.bel.mono HB0.out))
        have hml := sb0.len
        have hfi : (parts.take (i + 1)).flatten = (parts.take i).flatten ++ (parts[i]?.getD []) := by
          rw [List.take_succ_eq_append_getElem (by omega), List.flatten_append, List.getElem?_eq_getElem (by omega)]
          simp
        have hfl := take_flat_le parts (i + 1)
        rw [hfi, List.length_append] at hfl
        have hsz2 := HSZ.out
        have hap := append_yes HDI.out kN nmN ad m cc (parts[i]?.getD []) sb hadn hst (fun x hx => by
          rcases HBI.out.al x hx with rfl | rfl
          · rw [HBI.out.fp]; show old.length + m ≤ _; omega
          · rw [HBI.out.fq]; show (parts.take i).flatten.length + m ≤ _; omega)
        obtain ⟨hit, ok⟩ := append_step (b := parts[i]?.getD []) HWI.out HBI.out (by omega) (by omega)
        unfold ptD at hap
        have HAP := Lib.hid hap
        have HFI := Lib.hid hfi
        have HHIT := Lib.hid hit
        have HOK := Lib.hid ok
        have HINB : Hid (((i + 2 : Nat) : Int) < ((callsN n last : Nat) : Int)) := Lib.hid (by unfold callsN; omega)
        clear hin hap hfi hit ok hst sb sb0 hbi0 q00 hfl hsz2
        go_wp2_with fail
        refine HAP.out.mono ?_
        rintro e w5 ⟨he, c5, h5, s5⟩
        by_cases hAt : At = ((i + 2 : Nat) : Int)
        · obtain ⟨s5', hm5, hp5, hB5⟩ := HHIT.out hAt
          rw [hm5] at he h5
          subst he
          have HP : Hid (SwPost w base d c p old parts.flatten last At n (.returned (.bool false)) w5) := Lib.hid ⟨false, s5', c5, q, rfl, h5, (HS.out.trans HSI.out).trans s5, hp5, ⟨(fun e => by cases e), fun e => by have := HINB.out; have := HAT.out; omega⟩, .inr (.inl ⟨_, 0, hB5, Int.le_refl _, by omega, rfl⟩)⟩
          clear h5 s5 hm5 hAt
          go_wp2_with fail
          go_ret
          exact HP.out
        · obtain ⟨s5', hm5, hw5, hB5⟩ := HOK.out (by intro e; exact hAt (by rw [e]))
          rw [hm5] at he h5
          subst he
          have H5 := Lib.hid h5
          have HS5 := Lib.hid (HSI.out.trans s5)
          have HW5 := Lib.hid hw5
          have HB5 : Hid (StB s5' p q old (parts.take (i + 1)).flatten 0) := Lib.hid (by rw [HFI.out]; exact hB5)
          have HA5 : Hid (At < 1 ∨ ((i + 1 + 1 : Nat) : Int) < At) := Lib.hid (by have := HAT.out; omega)
          clear h5 s5 hm5 hw5 hB5 hAt
          go_wp2_with fail
          go_roundw
          case rel => exact ⟨i + 1, s5', c5, by simp, by omega, H5.out, HS5.out, HW5.out, HB5.out, HA5.out⟩
          case measure => simp [intOf]; omega
end Go.Proofs.Ytaeiijncklmfdaa
