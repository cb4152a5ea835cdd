/-
  Layer 3: Start.
-/
import Derived.Test.YtaeiijncklmfdaaDkQ
import Derived.Test.YtaeiijncklmfdaaStepE
import Derived.StillTailTactics
namespace Go.Proofs.Ytaeiijncklmfdaa
open Go.RowKit

/-- How much is left of so much. -/
def clampN (k : Int) (n : Nat) : Nat := (max 0 (min k (n : Int))).toNat
theorem clampN_le (k : Int) (n : Nat) : clampN k n ≤ n := by unfold clampN; omega
def cutF (f : FileS) (n : Nat) : FileS := { f with bytes := f.bytes.take (f.synced.toNat + n), synced := ((f.synced.toNat + n : Nat) : Int) }
def keepN (keep : List Int) (f : FileS) (i : Nat) : Nat := if i < keep.length then clampN (keep[i]?.getD 0) (f.bytes.length - f.synced.toNat) else 0
def cutM (F : List (ByteArray × Nat)) (keep : List Int) : List ByteArray → Nat → (Nat → FileS) → Nat → FileS
  | [], _, fl => fl
  | k :: l, i, fl => match getK F k with
    | none => cutM F keep l (i + 1) fl
    | some p => cutM F keep l (i + 1) (updF fl p (cutF (fl p) (keepN keep (fl p) i)))
def appliedM (s : DkS) (dir : Int) : List (ByteArray × Nat) := (s.pending.take (clampN dir s.pending.length)).foldl applyM s.durable
def startM (s : DkS) (dir : Int) (keep : List Int) (l : List ByteArray) : DkS :=
  { s with power := true, folder := appliedM s dir, durable := appliedM s dir, pending := [], file := cutM (appliedM s dir) keep l 0 s.file }
/-- A list of numbers, as it is read. -/
def IsAt (w : World) (a : Option Addr) (n c : Nat) (l : List Int) : Prop :=
  l.length = n ∧ n ≤ c ∧ (a = none → c = 0) ∧ n ≤ 140737488351232 ∧ (0 < n → ∃ g o, a = some ⟨g, o, none⟩ ∧ ∀ i : Nat, i < n → w.cell? ⟨g, o + i, none⟩ = some (.int .i64 (l[i]?.getD 0)))
theorem IsAt.stp {w w' : World} {base : Nat} {c c' : Nat → Nat} {a : Option Addr} {n cc : Nat} {l : List Int} (h : IsAt w a n cc l) (hf : Far c a) (hs : Stp w w' base c c') : IsAt w' a n cc l := by
  obtain ⟨h1, h2, h3, h4, h5⟩ := h
  refine ⟨h1, h2, h3, h4, fun hn => ?_⟩
  obtain ⟨g, o, e, hc⟩ := h5 hn
  refine ⟨g, o, e, fun i hi => ?_⟩
  rw [cell_heap (hs.keep g (World.block_lt_of_cell? w _ (hc i hi)) (hf _ e))]
  exact hc i hi
theorem Far.stp {w w' : World} {base : Nat} {c c' : Nat → Nat} {a : Option Addr} (h : Far c a) (hs : Stp w w' base c c') (hl : ∀ b, a = some b → b.block < w.heap.size) : Far c' a := fun b hb => (hs.old _ (hl b hb)).trans (h b hb)
theorem ch_get : ∀ (l : List ChS) (j : Nat) (x : ChS), l[j]? = some x → (l.flatMap chCells)[j * 3]? = some (.string x.gone) ∧ (l.flatMap chCells)[j * 3 + 1]? = some (.string x.to) ∧ (l.flatMap chCells)[j * 3 + 2]? = some (ptV x.file)
  | [], j, x, h => by simp at h
  | y :: l, 0, x, h => by
    simp at h
    subst h
    refine ⟨?_, ?_, ?_⟩ <;> simp [chCells]
  | y :: l, j + 1, x, h => by
    obtain ⟨a, b, c⟩ := ch_get l j x (by simpa using h)
    refine ⟨?_, ?_, ?_⟩
    · rw [List.flatMap_cons, show (j + 1) * 3 = j * 3 + 1 + 1 + 1 by omega]; simpa [chCells] using a
    · rw [List.flatMap_cons, show (j + 1) * 3 + 1 = j * 3 + 1 + 1 + 1 + 1 by omega]; simpa [chCells] using b
    · rw [List.flatMap_cons, show (j + 1) * 3 + 2 = j * 3 + 2 + 1 + 1 + 1 by omega]; simpa [chCells] using c
theorem pend_read {w : World} {base : Nat} {v : Value} {l : List ChS} (h : w.ownsRow base 108 3 v l.length (l.flatMap chCells)) {j : Nat} {x : ChS} (hx : l[j]? = some x) : ∃ g cap, v = .slice (some ⟨g, 0, none⟩) l.length cap ∧
    w.cell? ⟨g, j * 3, none⟩ = some (.string x.gone) ∧ w.cell? ⟨g, j * 3 + 1, none⟩ = some (.string x.to) ∧ w.cell? ⟨g, j * 3 + 2, none⟩ = some (ptV x.file) := by
  have hj : j < l.length := (List.getElem?_eq_some_iff.1 hx).1
  rcases h.2 with ⟨-, hn⟩ | ⟨g, cap, cur, rfl, -, hg, hc, -, -, htake⟩
  · omega
  · obtain ⟨a, b, c⟩ := ch_get l j x hx
    rw [← htake, List.getElem?_take_of_lt (by omega)] at a b c
    simp only [Array.getElem?_toList] at a b c
    refine ⟨g, cap, rfl, ?_, ?_, ?_⟩ <;> rw [cell_of_row w g _ cur _ (0, 0) hg] <;> assumption
theorem own_stp {w w' : World} {base b0 n sz : Nat} {e : TypeId} {c c' : Nat → Nat} {v : Value} {xs : List Value} (h : w.ownsRow b0 e sz v n xs) (hc : ∀ k, v.ownBlock = some k → c k = 0) (hs : Stp w w' base c c') : w'.ownsRow b0 e sz v n xs :=
  own_blk h fun k e => hs.keep k (World.ownsRow.lt h k e).2 (hc k e)
theorem get_of_mem {k : ByteArray} : ∀ {F : List (ByteArray × Nat)}, k ∈ F.map (·.1) → ∃ p, getK F k = some p
  | [], h => by cases h
  | y :: F, h => by
    unfold getK
    by_cases e : (y.1 == k) = true
    · exact ⟨y.2, by rw [if_pos e]⟩
    · rw [if_neg e]
      rcases List.mem_cons.1 (by simpa using h : k ∈ y.1 :: F.map (·.1)) with h1 | h1
      · exact absurd ((MapKept.bytes_beq _ _).2 h1.symm) e
      · exact get_of_mem h1
theorem SB.upto {w : World} {a : Option Addr} {n c : Nat} {l : List Int} (h : SB w (.slice a n c) l) (m : Nat) (hm : m ≤ n) : SB w (.slice a m c) (l.take m) := by
  have hl := h.len.1
  obtain ⟨hB, a', c', he, h1, h2⟩ := h
  simp only [Value.slice.injEq] at he
  obtain ⟨rfl, -, rfl⟩ := he
  refine ⟨fun i => ?_, a, c, by rw [List.length_take, Nat.min_eq_left (by omega)], by rw [List.length_take]; omega, ?_⟩
  · rw [List.getElem?_take]
    split
    · exact hB i
    · simp
  · rcases h2 with h2 | ⟨b, o, ha, hc⟩
    · left; rw [h2]; simp
    · right
      refine ⟨b, o, ha, fun i hi => ?_⟩
      rw [List.length_take] at hi
      rw [hc i (by omega), List.getElem?_take_of_lt (by omega)]
theorem updF_twice (fl : Nat → FileS) (p : Nat) (x y : FileS) : updF (updF fl p x) p y = updF fl p y := by
  funext q
  unfold updF
  split <;> rfl
def stA (s : DkS) (F : List (ByteArray × Nat)) : DkS := { s with power := true, folder := F }
def SynOk (s : DkS) : Prop := ∀ p ∈ s.ps, 0 ≤ (s.file p).synced ∧ (s.file p).synced ≤ ((s.file p).bytes.length : Int)
def StPost (w : World) (base d : Nat) (s : DkS) (c : Nat → Nat) (dir : Int) (keep : List Int) (e : Ending) (w' : World) : Prop :=
  e = .returned (.tuple #[]) ∧ ∃ l c', l.Perm ((appliedM s dir).map (·.1)) ∧ (l.map fun k => k.data.toList).Pairwise (· ≤ ·) ∧ Dk w' base d (startM s dir keep l) c' ∧ Stp w w' base c c'
section
variable {w : World} {base d : Nat} {s : DkS} {c : Nat → Nat}
set_option maxRecDepth 100000 in
set_option maxHeartbeats 4000000 in
theorem start_yes (h0 : Dk w base d s c) (hp : s.power = false) (dir : Int) (a : Option Addr) (n cc : Nat) (keep : List Int) (hk : ∀ w' c', Stp w w' base c c' → IsAt w' a n cc keep) (hpf : ∀ x ∈ s.pending, x.to ≠ ByteArray.empty → x.file ≠ none) (hsy : SynOk s)
    (hnm : ∀ x ∈ appliedM s dir, x.1.size ≤ 1000000) (hnl : (appliedM s dir).length ≤ 1000000) (hpl : s.pending.length ≤ 1000000000000) :
    Calls Try.prog 22 #[ptD d, .int .i64 dir, .slice a n cc] w (StPost w base d s c dir keep) := by
  obtain ⟨fo, du, pe, pl, bv, h⟩ := h0
  have hdis := isDisk_yes w h
  obtain ⟨-, c1, -⟩ := h.cell
  rw [hp] at c1
  have f1 := h.frz 1
  have hA := h.setPower true
  have sA := Stp.set h d 1 (by rw [h.cd]; decide) (.bool true)
  obtain ⟨-, -, -, cA3, -⟩ := hA.cell
  have HDIS := Lib.hid hdis
  have HA := Lib.hid hA
  have SA := Lib.hid sA
  have hcl := mapsClone_any (w.setCell ⟨d, 1, none⟩ (.bool true)) du _ hA.dur
  have HCL := Lib.hid hcl
  have HK := Lib.hid hk
  have HPF := Lib.hid hpf
  have HSY := Lib.hid hsy
  have HNM := Lib.hid hnm
  have HNL := Lib.hid hnl
  have HH := Lib.hid h
  clear h hdis hA sA hcl hk hpf hsy hnm hnl
  unfold ptD at *
  go_enter Try.func22, Try.ntmps22
  go_wp2_with fail
  refine HDIS.out.mono ?_
  rintro e w1 ⟨rfl, rfl⟩
  clear HDIS
  go_wp2_with fail
  refine HCL.out.mono ?_
  rintro e w2 ⟨rfl, hb2, hm2, hs2⟩
  obtain ⟨cB, hB, sB⟩ := HA.out.setFol _ _ hm2 (Nat.le_refl _) hb2 HA.out.din
  have e2 := (HA.out.below hb2).frz 2
  obtain ⟨-, -, e2c, -⟩ := (HA.out.below hb2).cell
  have HB : Hid (DkAt (w2.setCell ⟨d, 2, none⟩ (.map (some (w1.setCell ⟨d, 1, none⟩ (.bool true)).heap.size))) base d (stA s s.durable) cB (w1.setCell ⟨d, 1, none⟩ (.bool true)).heap.size du pe pl bv) := Lib.hid hB
  have HSB := Lib.hid (SA.out.trans sB)
  obtain ⟨-, -, -, -, c4, -⟩ := hB.cell
  obtain ⟨pa, pc, hpe, hpc, hpn⟩ := own_shp hB.pend
  simp only at hpe hpc
  have HPE := Lib.hid hpe
  clear hb2 hm2 hs2 hB sB HCL HA SA cA3
  rw [hpe] at c4
  generalize (w1.setCell ⟨d, 1, none⟩ (.bool true)).heap.size = gF at *
  generalize hPL : s.pending.length = PL at *
  have hclm := clampN_le dir PL
  have hmm : max 0 (min dir (PL : Int)) = ((clampN dir PL : Nat) : Int) := by unfold clampN; omega
  obtain ⟨kk, hkk⟩ : ∃ kk, clampN dir PL = kk := ⟨_, rfl⟩
  rw [hkk] at hclm hmm
  have HKK := Lib.hid hkk
  have HPL := Lib.hid hPL
  have hk0 : decide ((0 : Int) ≤ (kk : Int)) = true := by simp
  have hkp : kk ≤ pc := by omega
  clear hkk hPL hpe
  go_upto_region 3 with fail
  generalize hW3 : w2.setCell ⟨d, 2, none⟩ (.map (some gF)) = w3 at *
  have c4d : w3.drew.cell? ⟨d, 4, none⟩ = some (.slice pa PL pc) := c4
  go_cut [50, 51, 52] (fun x y z wx => x = .slice pa kk pc ∧ y = .int .i64 (kk : Int) ∧ z = .int .i64 0 ∧ wx = w3.drew)
  case first =>
    go_region_law (fail)
    all_goals go_wp2_with fail
    all_goals go_meet
    all_goals exact ⟨rfl, rfl, rfl, rfl⟩
  case rest =>
  obtain ⟨rfl, rfl, rfl, rfl⟩ := hcut
  have HB4 : Hid (DkAt w3.drew base d (stA s s.durable) cB gF du pe pl bv) := Lib.hid (HB.out.drewN 1)
  have HS4 : Hid (Stp w1 w3.drew base c cB) := Lib.hid (HSB.out.drewN 1)
  have hkb : kk ≤ 1000000000000 := by omega
  clear HB HSB c4d c4 hW3 e2 e2c hmm hk0
  generalize w3.drew = w4 at *
  go_wp2_with fail
  go_loopw [52] (fun x wr => ∃ (j : Nat) (c' : Nat → Nat), x = .int .i64 j ∧ j ≤ kk ∧ DkAt wr base d (stA s ((s.pending.take j).foldl applyM s.durable)) c' gF du pe pl bv ∧ Stp w1 wr base c c') (fun x _ => kk - (intOf x).toNat)
  case atStart => exact ⟨0, cB, rfl, Nat.zero_le _, HB4.out, HS4.out⟩
  case round =>
    obtain ⟨j, cj, rfl, hj, hdj, hsj⟩ := hrel
    have HDJ := Lib.hid hdj
    have HSJ := Lib.hid hsj
    clear hdj hsj HB4 HS4
    by_cases hjk : j = kk
    · have hjd : decide (j < kk) = false := by simp; omega
      -- END1
      have hFA : (s.pending.take j).foldl applyM s.durable = appliedM s dir := by unfold appliedM; rw [HPL.out, HKK.out, hjk]
      rw [hFA] at HDJ
      have HNAM := Lib.hid (names_yes (w := wr) ⟨_, _, _, _, _, HDJ.out⟩ HNM.out HNL.out)
      unfold ptD at HNAM
      clear hFA
      go_wp2_with fail
      refine HNAM.out.mono ?_
      rintro e w8 ⟨v, l, rfl, hov, hb8, -, hl⟩
      obtain ⟨hperm, hsort⟩ := hl rfl
      have HD8 := Lib.hid (HDJ.out.below hb8)
      have HS8 := Lib.hid (HSJ.out.trans (Stp.below cj hb8 HDJ.out.base_le))
      have HOV := Lib.hid hov
      have HVC : Hid (∀ k, v.ownBlock = some k → cj k = 0) := Lib.hid fun k e => HDJ.out.high k (World.ownsRow.lt hov k e).1
      have HPERM := Lib.hid hperm
      have HSORT := Lib.hid hsort
      have hll : l.length ≤ 1000000 := by
        have h2 : l.length = (appliedM s dir).length := by simpa [stA] using hperm.length_eq
        have := HNL.out; omega
      obtain ⟨va, vc, hvv, hvvc, hvvn⟩ := own_shp hov
      generalize hLL : l.length = LL at *
      subst hvv
      have HLL := Lib.hid hLL
      clear hov hb8 hl hperm hsort HNAM hLL
      go_wp2_with fail
      go_loopw [67] (fun x wx => ∃ (i : Nat) (fl : Nat → FileS) (ci : Nat → Nat) (bi : Nat → Value), x = .int .i64 i ∧ i ≤ LL ∧ DkAt wx base d { stA s (appliedM s dir) with file := fl } ci gF du pe pl bi ∧ Stp w8 wx base cj ci ∧ cutM (appliedM s dir) keep l 0 s.file = cutM (appliedM s dir) keep (l.drop i) i fl ∧ SynOk { stA s (appliedM s dir) with file := fl }) (fun x _ => LL - (intOf x).toNat)
      case atStart => exact ⟨0, s.file, cj, bv, rfl, Nat.zero_le _, HD8.out, Stp.refl _ _ _ HD8.out.base_le, rfl, HSY.out⟩
      case round =>
        obtain ⟨i, fl, ci, bi, rfl, hi, hdi, hsi, hcut, hsyn⟩ := hrel
        have HDI := Lib.hid hdi
        have HSI := Lib.hid hsi
        have HCUT := Lib.hid hcut
        have HSYN := Lib.hid hsyn
        clear hdi hsi hcut hsyn HDJ HSJ
        by_cases hiL : i = LL
        · have hid' : decide (i < LL) = false := by simp; omega
          have hfl : fl = cutM (appliedM s dir) keep l 0 s.file := by rw [HCUT.out, hiL, ← HLL.out, List.drop_length]; rfl
          have hcl := Lib.hid (mapsClone_any wr gF _ HDI.out.fold)
          have HFL := Lib.hid hfl
          obtain ⟨-, -, d2, d3, d4, -⟩ := HDI.out.cell
          clear hfl
          go_wp2_with fail
          refine hcl.out.mono ?_
          rintro e w4 ⟨rfl, hb4, hm4, hs4⟩
          have h4' := HDI.out.below hb4
          obtain ⟨-, -, -, e3, e4, -⟩ := h4'.cell
          have z3 := h4'.frz 3
          have z4' := h4'.frz 4
          obtain ⟨c5, h5, s5⟩ := HDI.out.setDur wr.heap.size _ hm4 (Nat.le_refl _) hb4 HDI.out.fin
          obtain ⟨-, -, -, -, f4, -⟩ := h5.cell
          have z4 := h5.frz 4
          obtain ⟨c6, h6, s6⟩ := h5.setPend (w1 := w4.setCell ⟨d, 3, none⟩ (.map (some wr.heap.size))) (.slice none 0 0) [] (World.ownsRow_nil _ _ _ _) (fun _ _ _ => rfl) (Nat.le_refl _) (fun _ e => by cases e) ((Below.refl _ _).mono h5.base_le) (fun x hx => by cases hx)
          have HP : Hid (StPost w1 base d s c dir keep (.returned (.tuple #[])) ((w4.setCell ⟨d, 3, none⟩ (.map (some wr.heap.size))).setCell ⟨d, 4, none⟩ (.slice none 0 0))) := Lib.hid ⟨rfl, l, c6, HPERM.out, HSORT.out, ⟨_, _, _, _, _, h6.same (by rw [HFL.out]; rfl)⟩, ((HS8.out.trans HSI.out).trans s5).trans s6⟩
          clear h5 s5 h6 s6 h4' hb4 hm4 hs4 hcl
          go_wp2_with fail
          go_end0
          exact HP.out
        · have hid' : decide (i < LL) = true := by simp; omega
          obtain ⟨nm, hnmv⟩ : ∃ nm, l[i]?.getD ByteArray.empty = nm := ⟨_, rfl⟩
          have hil : i < l.length := by have := HLL.out; omega
          have hts := (OwnT.ts (show OwnT wr _ _ l from own_stp HOV.out HVC.out HSI.out)) (by have := HLL.out; omega)
          obtain ⟨vg, vo, hva, hcells⟩ := hts.read i (by have := HLL.out; omega)
          subst hva
          have hcn := hcells i (by have := HLL.out; omega)
          rw [hnmv] at hcn
          have hmem : nm ∈ (appliedM s dir).map (·.1) := by
            refine HPERM.out.subset ?_
            rw [← hnmv, List.getElem?_eq_getElem hil]
            exact List.getElem_mem _
          obtain ⟨p, hgp⟩ := get_of_mem hmem
          have hpp : p ∈ ({ stA s (appliedM s dir) with file := fl } : DkS).ps := by obtain ⟨y, hy, e⟩ := getK_mem hgp; rw [← e]; exact HDI.out.fin y hy
          have hlk := lookupK_run wr gF _ HDI.out.fold nm
          change (Instr.lookup _ _ _ _).run _ _ = .ok (ptV (getK (appliedM s dir) nm)) wr at hlk
          rw [hgp] at hlk
          unfold ptV at hlk
          obtain ⟨-, -, d2, -⟩ := HDI.out.cell
          obtain ⟨g0, g1, -, gz⟩ := HDI.out.fcell hpp
          obtain ⟨ba, bc, hbv, hbc, hbn⟩ := own_shp (HDI.out.byt p hpp).1
          have hbyt := HDI.out.byt p hpp
          have hsyp := HSYN.out p hpp
          simp only at hsyp g1 hbyt
          obtain ⟨sy, hsy⟩ : ∃ sy : Nat, (fl p).synced = (sy : Int) := ⟨(fl p).synced.toNat, by omega⟩
          rw [hsy] at g1
          rw [hbv] at g0
          simp only at hbc
          generalize hBL : (fl p).bytes.length = bl at *
          have hsb : sy ≤ bl := by omega
          have hbl47 : bl ≤ 140737488351232 := hbyt.2.2
          have HBYT := Lib.hid hbyt
          have HBV := Lib.hid hbv
          have HBL' := Lib.hid hBL
          have HSYE := Lib.hid hsy
          have HPP := Lib.hid hpp
          have HGP := Lib.hid hgp
          have HNMV := Lib.hid hnmv
          have HBN := Lib.hid hbn
          have HKX := Lib.hid (HK.out _ _ (HS8.out.trans HSI.out))
          have HST := Lib.hid (HS8.out.trans HSI.out)
          have gz0 := gz 0
          have gz1 := gz 1
          clear hcells hts hmem hbyt hbv hBL hsy hpp hgp hnmv hsyp gz hbn
          have hsub : IntKind.i64.wrap ((bl : Int) - (sy : Int)) = ((bl - sy : Nat) : Int) := by rw [IntWalk.i64_in _ (by omega)]; omega
          by_cases hin : i < n
          · have hind : decide (i < n) = true := by simpa using hin
            obtain ⟨kg, ko, hka, hkc⟩ : ∃ kg ko, a = some ⟨kg, ko, none⟩ ∧ wr.cell? ⟨kg, ko + i, none⟩ = some (.int .i64 (keep[i]?.getD 0)) := by
              obtain ⟨h1, h2, h3, h4, h5⟩ := HKX.out
              obtain ⟨kg, ko, e, hc⟩ := h5 (by omega)
              exact ⟨kg, ko, e, hc i hin⟩
            subst hka
            have HNK : Hid (keepN keep (fl p) i = clampN (keep[i]?.getD 0) (bl - sy)) := Lib.hid (by
              unfold keepN
              rw [if_pos (by rw [HKX.out.1]; exact hin), HBL'.out, HSYE.out]
              rfl)
            have hnkl := clampN_le (keep[i]?.getD 0) (bl - sy)
            generalize keep[i]?.getD 0 = kv at *
            have hmm : max 0 (min kv ((bl - sy : Nat) : Int)) = ((clampN kv (bl - sy) : Nat) : Int) := by unfold clampN; omega
            generalize clampN kv (bl - sy) = nn at *
            have kcd : wr.drew.cell? ⟨kg, ko + i, none⟩ = some (.int .i64 kv) := hkc
            have g0d : wr.drew.cell? ⟨p, 0, none⟩ = some (.slice ba bl bc) := g0
            have g1d : wr.drew.cell? ⟨p, 1, none⟩ = some (.int .i64 (sy : Int)) := g1
            have hin2 : (i : Int) < (n : Int) := by omega
            go_upto_region 14 with fail
            go_cut [11] (fun x wx => x = .int .i64 ((nn : Nat) : Int) ∧ wx = wr.drew)
            case first =>
              go_region_law (fail)
              all_goals go_wp2_with fail
              all_goals go_meet
              all_goals exact ⟨rfl, rfl⟩
            case rest =>
              obtain ⟨rfl, rfl⟩ := hcut
              have HDW : Hid (DkAt wr.drew base d { stA s (appliedM s dir) with file := fl } ci gF du pe pl bi) := Lib.hid (HDI.out.drewN 1)
              have HSW : Hid (Stp w8 wr.drew base cj ci) := Lib.hid (HSI.out.drewN 1)
              have m0 : wr.drew.drew.cell? ⟨p, 0, none⟩ = some (.slice ba bl bc) := g0
              have m1 : wr.drew.drew.cell? ⟨p, 1, none⟩ = some (.int .i64 (sy : Int)) := g1
              clear g0 g1 gz0 gz1 hlk hcn d2 hsub HDI HSI g0d g1d kcd hkc hin2 hmm hin hind
              generalize wr.drew = wq at *
              obtain ⟨m, hm⟩ : ∃ m, m = sy + nn := ⟨_, rfl⟩
              have hadd : IntKind.i64.wrap ((sy : Int) + (nn : Int)) = (m : Int) := by rw [IntWalk.i64_in _ (by omega)]; omega
              have hmbc : m ≤ bc := by omega
              have hmbl : m ≤ bl := by omega
              have HMM := Lib.hid hm
              clear hm
              have HDD : Hid (DkAt wq.drew base d { stA s (appliedM s dir) with file := fl } ci gF du pe pl bi) := Lib.hid (HDW.out.drewN 1)
              have HSD : Hid (Stp w8 wq.drew base cj ci) := Lib.hid (HSW.out.drewN 1)
              have hby := HDD.out.byt p HPP.out
              have hsbb := (hby.1.sb hby.2.1 hby.2.2)
              rw [HBV.out] at hsbb
              have hpre := SB.upto (show SB wq.drew (.slice ba bl bc) (fl p).bytes from hsbb) m (by omega)
              have hcl := cloneB_any wq.drew ba m bc _ hpre HBN.out (by omega) (by rw [List.length_take]; omega)
              have HCL : Hid (Calls Try.prog 52 #[.slice ba m bc] wq.drew fun e w' => ∃ v, e = .returned v ∧ ∃ va vc, v = .slice va m vc ∧ OwnB w' wq.drew.heap.size (.slice va m vc) ((fl p).bytes.take m) ∧ Below wq.drew.heap.size wq.drew w') := Lib.hid (by
                refine hcl.mono ?_
                rintro e w' ⟨v, rfl, ho, hb⟩
                obtain ⟨va, vc, hv⟩ := OwnB.shape ho
                rw [List.length_take, Nat.min_eq_left (by have := HBL'.out; omega)] at hv
                subst hv
                exact ⟨_, rfl, va, vc, rfl, ho, hb⟩)
              have HPL2 := Lib.hid (HDD.out.plt HPP.out)
              have HFC := Lib.hid (HDD.out.file p HPP.out).1
              clear hby hsbb hpre hcl hnkl hsb
              go_wp2_with fail
              go_region_law ((refine step_callsE (by rfl) 52 _ _ (by rfl) _ (by rfl) (fun _ => by kernel_rfl) HCL.out ?_; rintro v w5 ⟨va, vc, rfl, ho5, hb5⟩; have hfc5 := (hb5.block p HPL2.out).trans HFC.out; have fz5 := frozen_of_row w5 p 0 _ _ hfc5; have fc5 : w5.cell? ⟨p, 0, none⟩ = some (.slice ba bl bc) := (by rw [cell_of_row w5 p 0 _ _ _ hfc5, ← HBV.out]; rfl)))
              all_goals
                obtain ⟨c6, bi6, h6, s6⟩ := HDD.out.setFile (w1 := w5) p HPP.out ⟨(fl p).bytes.take m, (fl p).synced, (fl p).bad⟩ (.slice va m vc) (.slice va m vc) 0 rfl (ho5.mono HDD.out.base_le) (fun k => by
                  show 0 ≤ ((fl p).bytes.take m)[k]?.getD 0 ∧ ((fl p).bytes.take m)[k]?.getD 0 ≤ 255
                  rw [List.getElem?_take]
                  split
                  · exact HBYT.out.2.1 k
                  · simp) (by show ((fl p).bytes.take m).length ≤ _; rw [List.length_take]; omega) (fun k hk _ => hb5.block k hk) hb5.size (fun k e => .inr (World.ownsRow.lt ho5 k e).1) (hb5.mono HDD.out.base_le)
                have hx1 : ({ bytes := (fl p).bytes.take m, synced := (m : Int), bad := (fl p).bad } : FileS) = cutF (fl p) (keepN keep (fl p) i) := by
                  unfold cutF
                  rw [HNK.out, HSYE.out, Int.toNat_natCast, ← HMM.out]
                have hfp : updF fl p ⟨(fl p).bytes.take m, (fl p).synced, (fl p).bad⟩ p = ⟨(fl p).bytes.take m, (fl p).synced, (fl p).bad⟩ := if_pos rfl
                have hby6 := h6.byt p HPP.out
                obtain ⟨c7, bi7, h7, s7⟩ := h6.setFile (w1 := w5.setCell ⟨p, 0, none⟩ (.slice va m vc)) p HPP.out ⟨(fl p).bytes.take m, (m : Int), (fl p).bad⟩ (bi6 p) (.int .i64 (m : Int)) 1 (by show (flCells (bi6 p) (updF fl p ⟨(fl p).bytes.take m, (fl p).synced, (fl p).bad⟩ p)).setIfInBounds 1 _ = _; rw [hfp]; rfl) (by have := hby6.1; simp only [hfp] at this; exact this) (by have := hby6.2.1; simp only [hfp] at this; exact this) (by have := hby6.2.2; simp only [hfp] at this; exact this) (fun _ _ _ => rfl) (Nat.le_refl _) (fun _ e => .inl e) ((Below.refl _ _).mono h6.base_le)
                have HD9 : Hid (DkAt ((w5.setCell ⟨p, 0, none⟩ (.slice va m vc)).setCell ⟨p, 1, none⟩ (.int .i64 (m : Int))) base d { stA s (appliedM s dir) with file := updF fl p (cutF (fl p) (keepN keep (fl p) i)) } c7 gF du pe pl bi7) := Lib.hid (h7.same (by
                  show ({ stA s (appliedM s dir) with file := updF (updF fl p _) p _ } : DkS) = _
                  rw [updF_twice, hx1]))
                have HS9 := Lib.hid ((HSD.out.trans s6).trans s7)
                have hcut9 : cutM (appliedM s dir) keep l 0 s.file = cutM (appliedM s dir) keep (l.drop (i + 1)) (i + 1) (updF fl p (cutF (fl p) (keepN keep (fl p) i))) := by
                  rw [HCUT.out, List.drop_eq_getElem_cons hil]
                  have hnm2 : l[i] = nm := by have := HNMV.out; rw [List.getElem?_eq_getElem hil] at this; exact this
                  rw [hnm2]
                  show (match getK (appliedM s dir) nm with | none => _ | some p => _) = _
                  rw [HGP.out]
                have HCUT9 := Lib.hid hcut9
                have hsyn9 : SynOk { stA s (appliedM s dir) with file := updF fl p (cutF (fl p) (keepN keep (fl p) i)) } := fun q hq => by
                  show 0 ≤ (updF fl p _ q).synced ∧ (updF fl p _ q).synced ≤ ((updF fl p _ q).bytes.length : Int)
                  by_cases e : q = p
                  · subst e
                    rw [← hx1]
                    unfold updF
                    rw [if_pos rfl]
                    simp only [List.length_take]
                    have := HBL'.out
                    omega
                  · unfold updF
                    rw [if_neg e]
                    exact HSYN.out q hq
                have HSYN9 := Lib.hid hsyn9
                have gz5 := frozen_of_row w5 p 1 _ _ hfc5
                have gc5 : w5.cell? ⟨p, 1, none⟩ = some (.int .i64 (fl p).synced) := by rw [cell_of_row w5 p 1 _ _ _ hfc5]; rfl
                clear h6 s6 h7 s7 hfp hby6 hcut9 hsyn9 hx1 ho5 hb5 hfc5 m0 m1
                go_wp2_with fail
                go_roundw
                case rel => exact ⟨i + 1, _, c7, bi7, by simp, by omega, HD9.out, HS9.out, HCUT9.out, HSYN9.out⟩
                case measure => simp [intOf]; omega
          · have hind : decide (i < n) = false := by simpa using hin
            have HNK : Hid (keepN keep (fl p) i = 0) := Lib.hid (by unfold keepN; rw [if_neg (by rw [HKX.out.1]; exact hin)])
            have HDW := HDI
            have HSW := HSI
            have m0 : wr.drew.cell? ⟨p, 0, none⟩ = some (.slice ba bl bc) := g0
            have m1 : wr.drew.cell? ⟨p, 1, none⟩ = some (.int .i64 (sy : Int)) := g1
            clear hin
            go_upto_region 15 with fail
            obtain ⟨nn, hnn⟩ : ∃ nn : Nat, nn = 0 := ⟨0, rfl⟩
            rw [← hnn] at HNK
            have hnkl : nn ≤ bl - sy := by omega
            clear g0 g1 gz0 gz1 hlk hcn d2 hsub HDI HSI hind
            generalize wr = wq at *
            obtain ⟨m, hm⟩ : ∃ m, m = sy + nn := ⟨_, rfl⟩
            have hadd : IntKind.i64.wrap ((sy : Int)) = (m : Int) := by rw [IntWalk.i64_in _ (by omega)]; omega
            have hmbc : m ≤ bc := by omega
            have hmbl : m ≤ bl := by omega
            have HMM := Lib.hid hm
            clear hm
            have HDD : Hid (DkAt wq.drew base d { stA s (appliedM s dir) with file := fl } ci gF du pe pl bi) := Lib.hid (HDW.out.drewN 1)
            have HSD : Hid (Stp w8 wq.drew base cj ci) := Lib.hid (HSW.out.drewN 1)
            have hby := HDD.out.byt p HPP.out
            have hsbb := (hby.1.sb hby.2.1 hby.2.2)
            rw [HBV.out] at hsbb
            have hpre := SB.upto (show SB wq.drew (.slice ba bl bc) (fl p).bytes from hsbb) m (by omega)
            have hcl := cloneB_any wq.drew ba m bc _ hpre HBN.out (by omega) (by rw [List.length_take]; omega)
            have HCL : Hid (Calls Try.prog 52 #[.slice ba m bc] wq.drew fun e w' => ∃ v, e = .returned v ∧ ∃ va vc, v = .slice va m vc ∧ OwnB w' wq.drew.heap.size (.slice va m vc) ((fl p).bytes.take m) ∧ Below wq.drew.heap.size wq.drew w') := Lib.hid (by
              refine hcl.mono ?_
              rintro e w' ⟨v, rfl, ho, hb⟩
              obtain ⟨va, vc, hv⟩ := OwnB.shape ho
              rw [List.length_take, Nat.min_eq_left (by have := HBL'.out; omega)] at hv
              subst hv
              exact ⟨_, rfl, va, vc, rfl, ho, hb⟩)
            have HPL2 := Lib.hid (HDD.out.plt HPP.out)
            have HFC := Lib.hid (HDD.out.file p HPP.out).1
            clear hby hsbb hpre hcl hnkl hsb
            go_wp2_with fail
            go_region_law ((refine step_callsE (by rfl) 52 _ _ (by rfl) _ (by rfl) (fun _ => by kernel_rfl) HCL.out ?_; rintro v w5 ⟨va, vc, rfl, ho5, hb5⟩; have hfc5 := (hb5.block p HPL2.out).trans HFC.out; have fz5 := frozen_of_row w5 p 0 _ _ hfc5; have fc5 : w5.cell? ⟨p, 0, none⟩ = some (.slice ba bl bc) := (by rw [cell_of_row w5 p 0 _ _ _ hfc5, ← HBV.out]; rfl)))
            all_goals
              obtain ⟨c6, bi6, h6, s6⟩ := HDD.out.setFile (w1 := w5) p HPP.out ⟨(fl p).bytes.take m, (fl p).synced, (fl p).bad⟩ (.slice va m vc) (.slice va m vc) 0 rfl (ho5.mono HDD.out.base_le) (fun k => by
                show 0 ≤ ((fl p).bytes.take m)[k]?.getD 0 ∧ ((fl p).bytes.take m)[k]?.getD 0 ≤ 255
                rw [List.getElem?_take]
                split
                · exact HBYT.out.2.1 k
                · simp) (by show ((fl p).bytes.take m).length ≤ _; rw [List.length_take]; omega) (fun k hk _ => hb5.block k hk) hb5.size (fun k e => .inr (World.ownsRow.lt ho5 k e).1) (hb5.mono HDD.out.base_le)
              have hx1 : ({ bytes := (fl p).bytes.take m, synced := (m : Int), bad := (fl p).bad } : FileS) = cutF (fl p) (keepN keep (fl p) i) := by
                unfold cutF
                rw [HNK.out, HSYE.out, Int.toNat_natCast, ← HMM.out]
              have hfp : updF fl p ⟨(fl p).bytes.take m, (fl p).synced, (fl p).bad⟩ p = ⟨(fl p).bytes.take m, (fl p).synced, (fl p).bad⟩ := if_pos rfl
              have hby6 := h6.byt p HPP.out
              obtain ⟨c7, bi7, h7, s7⟩ := h6.setFile (w1 := w5.setCell ⟨p, 0, none⟩ (.slice va m vc)) p HPP.out ⟨(fl p).bytes.take m, (m : Int), (fl p).bad⟩ (bi6 p) (.int .i64 (m : Int)) 1 (by show (flCells (bi6 p) (updF fl p ⟨(fl p).bytes.take m, (fl p).synced, (fl p).bad⟩ p)).setIfInBounds 1 _ = _; rw [hfp]; rfl) (by have := hby6.1; simp only [hfp] at this; exact this) (by have := hby6.2.1; simp only [hfp] at this; exact this) (by have := hby6.2.2; simp only [hfp] at this; exact this) (fun _ _ _ => rfl) (Nat.le_refl _) (fun _ e => .inl e) ((Below.refl _ _).mono h6.base_le)
              have HD9 : Hid (DkAt ((w5.setCell ⟨p, 0, none⟩ (.slice va m vc)).setCell ⟨p, 1, none⟩ (.int .i64 (m : Int))) base d { stA s (appliedM s dir) with file := updF fl p (cutF (fl p) (keepN keep (fl p) i)) } c7 gF du pe pl bi7) := Lib.hid (h7.same (by
                show ({ stA s (appliedM s dir) with file := updF (updF fl p _) p _ } : DkS) = _
                rw [updF_twice, hx1]))
              have HS9 := Lib.hid ((HSD.out.trans s6).trans s7)
              have hcut9 : cutM (appliedM s dir) keep l 0 s.file = cutM (appliedM s dir) keep (l.drop (i + 1)) (i + 1) (updF fl p (cutF (fl p) (keepN keep (fl p) i))) := by
                rw [HCUT.out, List.drop_eq_getElem_cons hil]
                have hnm2 : l[i] = nm := by have := HNMV.out; rw [List.getElem?_eq_getElem hil] at this; exact this
                rw [hnm2]
                show (match getK (appliedM s dir) nm with | none => _ | some p => _) = _
                rw [HGP.out]
              have HCUT9 := Lib.hid hcut9
              have hsyn9 : SynOk { stA s (appliedM s dir) with file := updF fl p (cutF (fl p) (keepN keep (fl p) i)) } := fun q hq => by
                show 0 ≤ (updF fl p _ q).synced ∧ (updF fl p _ q).synced ≤ ((updF fl p _ q).bytes.length : Int)
                by_cases e : q = p
                · subst e
                  rw [← hx1]
                  unfold updF
                  rw [if_pos rfl]
                  simp only [List.length_take]
                  have := HBL'.out
                  omega
                · unfold updF
                  rw [if_neg e]
                  exact HSYN.out q hq
              have HSYN9 := Lib.hid hsyn9
              have gz5 := frozen_of_row w5 p 1 _ _ hfc5
              have gc5 : w5.cell? ⟨p, 1, none⟩ = some (.int .i64 (fl p).synced) := by rw [cell_of_row w5 p 1 _ _ _ hfc5]; rfl
              clear h6 s6 h7 s7 hfp hby6 hcut9 hsyn9 hx1 ho5 hb5 hfc5 m0 m1
              go_wp2_with fail
              go_roundw
              case rel => exact ⟨i + 1, _, c7, bi7, by simp, by omega, HD9.out, HS9.out, HCUT9.out, HSYN9.out⟩
              case measure => simp [intOf]; omega
    · have hjd : decide (j < kk) = true := by simp; omega
      have hjk2 : j < kk := by omega
      have hjp : j < s.pending.length := by have := HPL.out; omega
      obtain ⟨x, hx⟩ : ∃ x, s.pending[j]? = some x := ⟨_, List.getElem?_eq_getElem hjp⟩
      obtain ⟨g, cap, hv, q0, q1, q2⟩ := pend_read HDJ.out.pend hx
      have hpa : pa = some ⟨g, 0, none⟩ := by have := HPE.out; rw [hv] at this; simp only [Value.slice.injEq] at this; exact this.1.symm
      subst hpa
      rcases hf : x.file with _ | p
      · have HX := Lib.hid hx
        rw [hf] at q2
        unfold ptV at q2
        have hal := (Below.refl wr.heap.size wr).alloc (Nat.le_refl _) (.cells #[.string x.gone, .string x.to, .pointer none] 108)
        have hbx : (wr.alloc (.cells #[.string x.gone, .string x.to, .pointer none] 108)).heap[wr.heap.size]? = some (.cells #[.string x.gone, .string x.to, .pointer none] 108 (0, 0)) := heap_alloc_new wr _
        have hblt : wr.heap.size < (wr.alloc (.cells #[.string x.gone, .string x.to, .pointer none] 108)).heap.size := by simp
        have hbc : cj wr.heap.size = 0 := HDJ.out.high _ (Nat.le_refl _)
        have HD6 := Lib.hid (HDJ.out.below hal)
        have HS6 := Lib.hid (HSJ.out.trans (Stp.below cj hal HDJ.out.base_le))
        have HBX := Lib.hid hbx
        have HBL := Lib.hid hblt
        have HBC := Lib.hid hbc
        clear hjk hx hv hal hbx hblt hbc
        go_wp2_with fail
        generalize wr.alloc (.cells #[.string x.gone, .string x.to, .pointer none] 108) = w6 at *
        generalize wr.heap.size = B at *
        obtain ⟨-, -, d2, -⟩ := HD6.out.cell
        have e0 : w6.cell? ⟨B, 0, none⟩ = some (.string x.gone) := by rw [cell_of_row w6 B 0 _ _ _ HBX.out]; rfl
        have e1 : w6.cell? ⟨B, 1, none⟩ = some (.string x.to) := by rw [cell_of_row w6 B 1 _ _ _ HBX.out]; rfl
        have e2 : w6.cell? ⟨B, 2, none⟩ = some (.pointer none) := by rw [cell_of_row w6 B 2 _ _ _ HBX.out]; rfl
        have d2d : w6.drew.cell? ⟨d, 2, none⟩ = some (.map (some gF)) := d2
        have e0d : w6.drew.cell? ⟨B, 0, none⟩ = some (.string x.gone) := e0
        have e1d : w6.drew.cell? ⟨B, 1, none⟩ = some (.string x.to) := e1
        have e2d : w6.drew.cell? ⟨B, 2, none⟩ = some (.pointer none) := e2
        have HD7 : Hid (DkAt w6.drew base d (stA s ((s.pending.take j).foldl applyM s.durable)) cj gF du pe pl bv) := Lib.hid (HD6.out.drewN 1)
        have HS7 : Hid (Stp w1 w6.drew base c cj) := Lib.hid (HS6.out.drewN 1)
        have HBL7 : Hid (B < w6.drew.heap.size) := HBL
        have hxf := HPF.out x (List.mem_of_getElem? HX.out)
        have hap := apply_any w6.drew gF base _ HD7.out.fold (HD7.out.low gF (by rw [HD7.out.cf]; decide)) x hxf
        unfold chV at hap
        rw [hf] at hap
        unfold ptV at hap
        have HAP := Lib.hid hap
        clear hap d2 e0 e1 e2 q0 q1 q2
        refine wp_region_held_drew (S := fun w' => w'.cell? ⟨d, 2, none⟩ = some (.map (some gF)) ∧ w'.cell? ⟨B, 0, none⟩ = some (.string x.gone) ∧ w'.cell? ⟨B, 1, none⟩ = some (.string x.to) ∧ w'.cell? ⟨B, 2, none⟩ = some (.pointer none)) (by kernel_rfl) ⟨d2d, e0d, e1d, e2d⟩ (fun hHeld => ?_)
        generalize w6.drew = w7 at *
        refine wpAnyH_take (i := 0) (v := .agg #[.string x.gone, .string x.to, .pointer none]) rfl (by kernel_rfl) (by kernel_rfl) (by kernel_rfl) (fun _ _ _ h => h) (Or.inl ⟨by rfl, by intro w hSw; (try dsimp only at hSw); go_simp⟩) (by assumption) ?_
        simp only [Act.put, List.getElem_toArray, List.getElem_cons_zero, List.setIfInBounds_toArray, List.set_cons_zero, List.set_cons_succ]
        refine wpAnyH_take (i := 1) (v := .pointer (some ⟨d, 0, none⟩)) rfl (by kernel_rfl) (by kernel_rfl) (by kernel_rfl) (fun _ _ _ h => h) (Or.inl ⟨by rfl, by intro w hSw; (try dsimp only at hSw); go_simp⟩) (by assumption) ?_
        simp only [Act.put, List.getElem_toArray, List.getElem_cons_zero, List.getElem_cons_succ, List.setIfInBounds_toArray, List.set_cons_zero, List.set_cons_succ]
        refine wpAnyH_take (i := 2) (v := .pointer (some ⟨d, 0, none⟩)) rfl (by kernel_rfl) (by kernel_rfl) (by kernel_rfl) (fun _ _ _ h => h) (Or.inl ⟨by rfl, by intro w hSw; (try dsimp only at hSw); go_simp⟩) (by assumption) ?_
        simp only [Act.put, List.getElem_toArray, List.getElem_cons_zero, List.getElem_cons_succ, List.setIfInBounds_toArray, List.set_cons_zero, List.set_cons_succ]
        refine wpAnyH_take (i := 3) (v := .pointer (some ⟨d, 0, none⟩)) rfl (by kernel_rfl) (by kernel_rfl) (by kernel_rfl) (fun _ _ _ h => h) (Or.inl ⟨by rfl, by intro w hSw; (try dsimp only at hSw); go_simp⟩) (by assumption) ?_
        simp only [Act.put, List.getElem_toArray, List.getElem_cons_zero, List.getElem_cons_succ, List.setIfInBounds_toArray, List.set_cons_zero, List.set_cons_succ]
        refine wpAnyH_take (i := 4) (v := .pointer (some ⟨d, 2, none⟩)) rfl (by kernel_rfl) (by kernel_rfl) (by kernel_rfl) (fun _ _ _ h => h) (Or.inl ⟨by rfl, by intro w hSw; (try dsimp only at hSw); go_simp⟩) (by assumption) ?_
        simp only [Act.put, List.getElem_toArray, List.getElem_cons_zero, List.getElem_cons_succ, List.setIfInBounds_toArray, List.set_cons_zero, List.set_cons_succ]
        refine wpAnyH_take (i := 5) (v := .map (some gF)) rfl (by kernel_rfl) (by kernel_rfl) (by kernel_rfl) (fun _ _ _ h => h) (Or.inl ⟨by rfl, by intro w hSw; (try dsimp only at hSw); go_simp⟩) (by assumption) ?_
        simp only [Act.put, List.getElem_toArray, List.getElem_cons_zero, List.getElem_cons_succ, List.setIfInBounds_toArray, List.set_cons_zero, List.set_cons_succ]
        refine wpAnyH_ready (rs := [6]) (by kernel_rfl) (by simp) ?_
        refine AllReadyH.cons rfl (fun K hK => ?_) AllReadyH.nil
        go_simp
        refine HAP.out.mono ?_
        rintro e wn ⟨rfl, hm, hu⟩
        have k1 : wn.heap[B]? = w7.heap[B]? := hu.keep _ HBL7.out fun e => by have h1 := HBC.out; rw [e, HD7.out.cf] at h1; cases h1
        have k2 : wn.heap[d]? = w7.heap[d]? := hu.keep _ HD7.out.dlt fun e => by have := HD7.out.cd; rw [e, HD7.out.cf] at this; cases this
        replace hHeld : wn.cell? ⟨d, 2, none⟩ = some (.map (some gF)) ∧ wn.cell? ⟨B, 0, none⟩ = some (.string x.gone) ∧ wn.cell? ⟨B, 1, none⟩ = some (.string x.to) ∧ wn.cell? ⟨B, 2, none⟩ = some (.pointer none) := ⟨(cell_heap k2 2).trans hHeld.1, (cell_heap k1 0).trans hHeld.2.1, (cell_heap k1 1).trans hHeld.2.2.1, (cell_heap k1 2).trans hHeld.2.2.2⟩
        refine hK.out _ _ hHeld (fun hHeld => ?_)
        clear hK K
        obtain ⟨h8, s8⟩ := HD7.out.setFolder _ hm hu (fun y hy => by
          rcases mem_apply hxf hy with h | h
          · exact HD7.out.fin y h
          · exact HD7.out.pin x (List.mem_of_getElem? HX.out) _ h)
        have hft : (s.pending.take (j + 1)).foldl applyM s.durable = applyM ((s.pending.take j).foldl applyM s.durable) x := by
          rw [List.take_succ_eq_append_getElem hjp, List.foldl_append]
          have := HX.out
          rw [List.getElem?_eq_getElem hjp] at this
          simp only [Option.some.injEq] at this
          rw [this]
          rfl
        have HD8 : Hid (DkAt wn base d (stA s ((s.pending.take (j + 1)).foldl applyM s.durable)) cj gF du pe pl bv) := Lib.hid (by rw [hft]; exact h8)
        have HS8 := Lib.hid (HS7.out.trans s8)
        clear h8 s8 hft hm hu k1 k2 hxf
        refine wpAnyH_done (by kernel_rfl) ?_ _
        go_wp2_with fail
        go_roundw
        case rel => exact ⟨j + 1, cj, by simp, by omega, HD8.out, HS8.out⟩
        case measure => simp [intOf]; omega
      · have HX := Lib.hid hx
        rw [hf] at q2
        unfold ptV at q2
        have hal := (Below.refl wr.heap.size wr).alloc (Nat.le_refl _) (.cells #[.string x.gone, .string x.to, .pointer (some ⟨p, 0, none⟩)] 108)
        have hbx : (wr.alloc (.cells #[.string x.gone, .string x.to, .pointer (some ⟨p, 0, none⟩)] 108)).heap[wr.heap.size]? = some (.cells #[.string x.gone, .string x.to, .pointer (some ⟨p, 0, none⟩)] 108 (0, 0)) := heap_alloc_new wr _
        have hblt : wr.heap.size < (wr.alloc (.cells #[.string x.gone, .string x.to, .pointer (some ⟨p, 0, none⟩)] 108)).heap.size := by simp
        have hbc : cj wr.heap.size = 0 := HDJ.out.high _ (Nat.le_refl _)
        have HD6 := Lib.hid (HDJ.out.below hal)
        have HS6 := Lib.hid (HSJ.out.trans (Stp.below cj hal HDJ.out.base_le))
        have HBX := Lib.hid hbx
        have HBL := Lib.hid hblt
        have HBC := Lib.hid hbc
        clear hjk hx hv hal hbx hblt hbc
        go_wp2_with fail
        generalize wr.alloc (.cells #[.string x.gone, .string x.to, .pointer (some ⟨p, 0, none⟩)] 108) = w6 at *
        generalize wr.heap.size = B at *
        obtain ⟨-, -, d2, -⟩ := HD6.out.cell
        have e0 : w6.cell? ⟨B, 0, none⟩ = some (.string x.gone) := by rw [cell_of_row w6 B 0 _ _ _ HBX.out]; rfl
        have e1 : w6.cell? ⟨B, 1, none⟩ = some (.string x.to) := by rw [cell_of_row w6 B 1 _ _ _ HBX.out]; rfl
        have e2 : w6.cell? ⟨B, 2, none⟩ = some (.pointer (some ⟨p, 0, none⟩)) := by rw [cell_of_row w6 B 2 _ _ _ HBX.out]; rfl
        have d2d : w6.drew.cell? ⟨d, 2, none⟩ = some (.map (some gF)) := d2
        have e0d : w6.drew.cell? ⟨B, 0, none⟩ = some (.string x.gone) := e0
        have e1d : w6.drew.cell? ⟨B, 1, none⟩ = some (.string x.to) := e1
        have e2d : w6.drew.cell? ⟨B, 2, none⟩ = some (.pointer (some ⟨p, 0, none⟩)) := e2
        have HD7 : Hid (DkAt w6.drew base d (stA s ((s.pending.take j).foldl applyM s.durable)) cj gF du pe pl bv) := Lib.hid (HD6.out.drewN 1)
        have HS7 : Hid (Stp w1 w6.drew base c cj) := Lib.hid (HS6.out.drewN 1)
        have HBL7 : Hid (B < w6.drew.heap.size) := HBL
        have hxf := HPF.out x (List.mem_of_getElem? HX.out)
        have hap := apply_any w6.drew gF base _ HD7.out.fold (HD7.out.low gF (by rw [HD7.out.cf]; decide)) x hxf
        unfold chV at hap
        rw [hf] at hap
        unfold ptV at hap
        have HAP := Lib.hid hap
        clear hap d2 e0 e1 e2 q0 q1 q2
        refine wp_region_held_drew (S := fun w' => w'.cell? ⟨d, 2, none⟩ = some (.map (some gF)) ∧ w'.cell? ⟨B, 0, none⟩ = some (.string x.gone) ∧ w'.cell? ⟨B, 1, none⟩ = some (.string x.to) ∧ w'.cell? ⟨B, 2, none⟩ = some (.pointer (some ⟨p, 0, none⟩))) (by kernel_rfl) ⟨d2d, e0d, e1d, e2d⟩ (fun hHeld => ?_)
        generalize w6.drew = w7 at *
        refine wpAnyH_take (i := 0) (v := .agg #[.string x.gone, .string x.to, .pointer (some ⟨p, 0, none⟩)]) rfl (by kernel_rfl) (by kernel_rfl) (by kernel_rfl) (fun _ _ _ h => h) (Or.inl ⟨by rfl, by intro w hSw; (try dsimp only at hSw); go_simp⟩) (by assumption) ?_
        simp only [Act.put, List.getElem_toArray, List.getElem_cons_zero, List.setIfInBounds_toArray, List.set_cons_zero, List.set_cons_succ]
        refine wpAnyH_take (i := 1) (v := .pointer (some ⟨d, 0, none⟩)) rfl (by kernel_rfl) (by kernel_rfl) (by kernel_rfl) (fun _ _ _ h => h) (Or.inl ⟨by rfl, by intro w hSw; (try dsimp only at hSw); go_simp⟩) (by assumption) ?_
        simp only [Act.put, List.getElem_toArray, List.getElem_cons_zero, List.getElem_cons_succ, List.setIfInBounds_toArray, List.set_cons_zero, List.set_cons_succ]
        refine wpAnyH_take (i := 2) (v := .pointer (some ⟨d, 0, none⟩)) rfl (by kernel_rfl) (by kernel_rfl) (by kernel_rfl) (fun _ _ _ h => h) (Or.inl ⟨by rfl, by intro w hSw; (try dsimp only at hSw); go_simp⟩) (by assumption) ?_
        simp only [Act.put, List.getElem_toArray, List.getElem_cons_zero, List.getElem_cons_succ, List.setIfInBounds_toArray, List.set_cons_zero, List.set_cons_succ]
        refine wpAnyH_take (i := 3) (v := .pointer (some ⟨d, 0, none⟩)) rfl (by kernel_rfl) (by kernel_rfl) (by kernel_rfl) (fun _ _ _ h => h) (Or.inl ⟨by rfl, by intro w hSw; (try dsimp only at hSw); go_simp⟩) (by assumption) ?_
        simp only [Act.put, List.getElem_toArray, List.getElem_cons_zero, List.getElem_cons_succ, List.setIfInBounds_toArray, List.set_cons_zero, List.set_cons_succ]
        refine wpAnyH_take (i := 4) (v := .pointer (some ⟨d, 2, none⟩)) rfl (by kernel_rfl) (by kernel_rfl) (by kernel_rfl) (fun _ _ _ h => h) (Or.inl ⟨by rfl, by intro w hSw; (try dsimp only at hSw); go_simp⟩) (by assumption) ?_
        simp only [Act.put, List.getElem_toArray, List.getElem_cons_zero, List.getElem_cons_succ, List.setIfInBounds_toArray, List.set_cons_zero, List.set_cons_succ]
        refine wpAnyH_take (i := 5) (v := .map (some gF)) rfl (by kernel_rfl) (by kernel_rfl) (by kernel_rfl) (fun _ _ _ h => h) (Or.inl ⟨by rfl, by intro w hSw; (try dsimp only at hSw); go_simp⟩) (by assumption) ?_
        simp only [Act.put, List.getElem_toArray, List.getElem_cons_zero, List.getElem_cons_succ, List.setIfInBounds_toArray, List.set_cons_zero, List.set_cons_succ]
        refine wpAnyH_ready (rs := [6]) (by kernel_rfl) (by simp) ?_
        refine AllReadyH.cons rfl (fun K hK => ?_) AllReadyH.nil
        go_simp
        refine HAP.out.mono ?_
        rintro e wn ⟨rfl, hm, hu⟩
        have k1 : wn.heap[B]? = w7.heap[B]? := hu.keep _ HBL7.out fun e => by have h1 := HBC.out; rw [e, HD7.out.cf] at h1; cases h1
        have k2 : wn.heap[d]? = w7.heap[d]? := hu.keep _ HD7.out.dlt fun e => by have := HD7.out.cd; rw [e, HD7.out.cf] at this; cases this
        replace hHeld : wn.cell? ⟨d, 2, none⟩ = some (.map (some gF)) ∧ wn.cell? ⟨B, 0, none⟩ = some (.string x.gone) ∧ wn.cell? ⟨B, 1, none⟩ = some (.string x.to) ∧ wn.cell? ⟨B, 2, none⟩ = some (.pointer (some ⟨p, 0, none⟩)) := ⟨(cell_heap k2 2).trans hHeld.1, (cell_heap k1 0).trans hHeld.2.1, (cell_heap k1 1).trans hHeld.2.2.1, (cell_heap k1 2).trans hHeld.2.2.2⟩
        refine hK.out _ _ hHeld (fun hHeld => ?_)
        clear hK K
        obtain ⟨h8, s8⟩ := HD7.out.setFolder _ hm hu (fun y hy => by
          rcases mem_apply hxf hy with h | h
          · exact HD7.out.fin y h
          · exact HD7.out.pin x (List.mem_of_getElem? HX.out) _ h)
        have hft : (s.pending.take (j + 1)).foldl applyM s.durable = applyM ((s.pending.take j).foldl applyM s.durable) x := by
          rw [List.take_succ_eq_append_getElem hjp, List.foldl_append]
          have := HX.out
          rw [List.getElem?_eq_getElem hjp] at this
          simp only [Option.some.injEq] at this
          rw [this]
          rfl
        have HD8 : Hid (DkAt wn base d (stA s ((s.pending.take (j + 1)).foldl applyM s.durable)) cj gF du pe pl bv) := Lib.hid (by rw [hft]; exact h8)
        have HS8 := Lib.hid (HS7.out.trans s8)
        clear h8 s8 hft hm hu k1 k2 hxf
        refine wpAnyH_done (by kernel_rfl) ?_ _
        go_wp2_with fail
        go_roundw
        case rel => exact ⟨j + 1, cj, by simp, by omega, HD8.out, HS8.out⟩
        case measure => simp [intOf]; omega
end
end Go.Proofs.Ytaeiijncklmfdaa
