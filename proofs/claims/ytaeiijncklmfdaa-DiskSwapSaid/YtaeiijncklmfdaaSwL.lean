/-
  galleylaw03.DiskSwap: the walk.
-/
import Derived.Test.YtaeiijncklmfdaaSwF
import Derived.Test.YtaeiijncklmfdaaDkY
import Derived.Test.YtaeiijncklmfdaaDkQ
namespace Go.Proofs.Ytaeiijncklmfdaa
open Go.RowKit

theorem IsAt.below {w w' : World} {a : Option Addr} {n c : Nat} {l : List Int} (h : IsAt w a n c l) (hb : Below w.heap.size w w') : IsAt w' a n c l := by
  obtain ⟨h1, h2, h3, h4, h5⟩ := h
  refine ⟨h1, h2, h3, h4, fun hn => ?_⟩
  obtain ⟨g, o, e, hc⟩ := h5 hn
  exact ⟨g, o, e, fun i hi => (hb.cell (World.block_lt_of_cell? w _ (hc i hi))).trans (hc i hi)⟩
theorem flat_step (l : List (List Int)) (i : Nat) (h : i < l.length) : (l.take (i + 1)).flatten = (l.take i).flatten ++ (l[i]?.getD []) := by
  rw [List.take_succ_eq_append_getElem h, List.flatten_append, List.getElem?_eq_getElem h]
  simp
def FinW (W w1 : World) : Prop := ∀ w', Below w1.heap.size w1 w' → Below W.heap.size W w'
theorem power_dk {w : World} {base d : Nat} {s : DkS} {c : Nat → Nat} (h : Dk w base d s c) : Calls Try.prog 15 #[ptD d] w fun e w' => e = .returned (.bool s.power) ∧ w' = w := by
  obtain ⟨_, _, _, _, _, h⟩ := h
  exact power_yes w h
theorem fs_one (w : World) (oa : Option Addr) (on oc : Nat) (old : List Int) (h : SB w (.slice oa on oc) old) (hN : oa = none → oc = 0) (hoc : on ≤ oc) : FsAt (w.alloc (.cells #[.string kF, .slice oa on oc, .int .i64 on, .bool false] 53)) (some ⟨w.heap.size, 0, none⟩) 1 1 [⟨kF, old, (on : Int), false⟩] := by
  have hbk := heap_alloc_new w (.cells #[.string kF, .slice oa on oc, .int .i64 on, .bool false] 53)
  refine ⟨rfl, Nat.le_refl _, (fun e => by cases e), fun b hb => ?_⟩
  cases hb
  refine ⟨_, 0, rfl, fun i hi => ?_⟩
  obtain rfl : i = 0 := by omega
  refine ⟨oa, on, oc, ?_, ?_, ?_, ?_, h.below ((Below.refl w.heap.size w).alloc (Nat.le_refl _) _), hN, hoc⟩
  · rw [cell_of_row _ _ _ _ _ _ hbk]; rfl
  · rw [cell_of_row _ _ _ _ _ _ hbk]; rfl
  · rw [cell_of_row _ _ _ _ _ _ hbk]; rfl
  · rw [cell_of_row _ _ _ _ _ _ hbk]; rfl
theorem ok_one (old : List Int) : okL [⟨kF, old, (old.length : Int), false⟩] 1 := fun i hi => by
  obtain rfl : i = 0 := by omega
  exact ⟨okF, Int.natCast_nonneg _, Int.le_refl _, fun j hj => absurd hj (Nat.not_lt_zero _)⟩
theorem one_fold {F : List (ByteArray × Nat)} {fl : Nat → FileS} {old : List Int} (hf : F.map (fun x => (x.1, fl x.2)) = [⟨kF, old, (old.length : Int), false⟩].map fsV) : ∃ p, F = [(kF, p)] ∧ fl p = fP old := by
  rcases F with _ | ⟨⟨k, p⟩, _ | ⟨y, l⟩⟩
  · simp at hf
  · simp only [List.map_cons, List.map_nil, fsV, List.cons.injEq, Prod.mk.injEq, and_true] at hf
    exact ⟨p, by rw [hf.1], hf.2⟩
  · simp at hf
def FrSw (w : World) (old : List Int) (e : Ending) (w' : World) : Prop :=
  ∃ d c p s, e = .returned (.tuple #[ptD d, .int .i64 0]) ∧ Dk w' w.heap.size d s c ∧ StA s p old ∧ s.power = true ∧ s.tries = 0 ∧ s.plan = [] ∧ s.room = 16777216 ∧ Below w.heap.size w w'
theorem from_sw {w w' : World} {old : List Int} {e : Ending} (hl : old.length ≤ 16777216) (h : FromPost w 16777216 [⟨kF, old, (old.length : Int), false⟩] e w') : FrSw w old e w' := by
  obtain ⟨hb, h⟩ := h
  have ht : totL [⟨kF, old, (old.length : Int), false⟩] = (old.length : Int) := by simp [totL]
  rw [ht] at h
  rcases h with ⟨-, h | h | h | h⟩ | ⟨-, h⟩ | ⟨d, c, F, fl, ps, he, hd, -, ⟨hf, -⟩, -, hps⟩
  · omega
  · omega
  · simp at h
  · exact absurd (ok_one old) h
  · unfold wrap64 at h; omega
  · obtain ⟨p, rfl, hfp⟩ := one_fold hf
    refine ⟨d, c, p, _, he, hd, ⟨rfl, rfl, rfl, hfp, ?_, fun x hx => ?_⟩, rfl, rfl, rfl, rfl, hb⟩
    · obtain ⟨_, _, _, _, _, hd⟩ := hd
      exact hd.fin (kF, p) (by simp)
    · simpa using hps x hx
theorem sw_dec {n : Nat} {last al : Bool} {At : Int} (h : al = true ↔ (At < 1 ∨ ((callsN n last : Nat) : Int) < At)) (h1 : 1 ≤ At) : decide ((n : Int) + 3 + (if last = true then 1 else 0) < At) = al := by
  unfold callsN at h
  cases al
  · refine decide_eq_false fun e => ?_
    have := h.2 (.inr (by cases last <;> simp at e ⊢ <;> omega))
    cases this
  · refine decide_eq_true ?_
    rcases h.1 rfl with h | h
    · omega
    · cases last <;> simp at h ⊢ <;> omega
theorem ap_small {s : DkS} {p q : Nat} {old F : List Int} {last al : Bool} (h : SwSt s p q old F last al) (dir : Int) : (∀ x ∈ appliedM s dir, x.1.size ≤ 1000000) ∧ (appliedM s dir).length ≤ 1000000 := by
  have hk : kF.size ≤ 1000000 := by decide +kernel
  have hk2 : kN.size ≤ 1000000 := by decide +kernel
  rcases applied_all h dir with e | e | e <;> rw [e]
  · exact ⟨fun x hx => by rw [List.mem_singleton.1 hx]; exact hk, by simp⟩
  · refine ⟨fun x hx => ?_, by simp⟩
    simp only [List.mem_cons, List.not_mem_nil, or_false] at hx
    rcases hx with rfl | rfl
    · exact hk
    · exact hk2
  · exact ⟨fun x hx => by rw [List.mem_singleton.1 hx]; exact hk, by simp⟩
theorem nm_left {s : DkS} {p q : Nat} {old F b : List Int} {last al : Bool} {l : List ByteArray} (h : Left s p q old F b) (hl : al = true → last = true → b = F ∧ s.folder = [(kF, q)]) (hp : l.Perm (s.folder.map (·.1))) (hs : (l.map fun k => k.data.toList).Pairwise (· ≤ ·)) :
    (l = [kF] ∧ (decide (b = old) || decide (b = F)) = true ∧ (al = true → last = true → decide (b = F) = true)) ∨ (l = [kF, kN] ∧ decide (b = old) = true ∧ (al && last) = false) := by
  rcases h.2 with ⟨e, rfl⟩ | ⟨e, rfl⟩ | ⟨e, rfl⟩
  · rw [e] at hp
    exact .inl ⟨names_one hp, by simp, fun h1 h2 => decide_eq_true (hl h1 h2).1⟩
  · refine .inr ⟨?_, by simp, ?_⟩
    · rw [e] at hp
      exact names_two hp hs
    · cases al
      · rfl
      · cases last
        · rfl
        · have := (hl rfl rfl).2
          rw [e] at this
          cases this
  · rw [e] at hp
    exact .inl ⟨names_one hp, by simp, fun h1 h2 => decide_eq_true rfl⟩
def NmRes (al last : Bool) (old F b : List Int) (l : List ByteArray) : Prop := (l = [kF] ∧ (decide (b = old) || decide (b = F)) = true ∧ (al = true → last = true → decide (b = F) = true)) ∨ (l = [kF, kN] ∧ decide (b = old) = true ∧ (al && last) = false)
theorem left_small {s : DkS} {p q : Nat} {old F b : List Int} (h : Left s p q old F b) : (∀ x ∈ s.folder, x.1.size ≤ 1000000) ∧ s.folder.length ≤ 1000000 := by
  have hk : kF.size ≤ 1000000 := by decide +kernel
  have hk2 : kN.size ≤ 1000000 := by decide +kernel
  rcases h.2 with ⟨e, -⟩ | ⟨e, -⟩ | ⟨e, -⟩ <;> rw [e]
  · exact ⟨fun x hx => by rw [List.mem_singleton.1 hx]; exact hk, by simp⟩
  · refine ⟨fun x hx => ?_, by simp⟩
    simp only [List.mem_cons, List.not_mem_nil, or_false] at hx
    rcases hx with rfl | rfl
    · exact hk
    · exact hk2
  · exact ⟨fun x hx => by rw [List.mem_singleton.1 hx]; exact hk, by simp⟩
set_option maxRecDepth 100000 in
set_option maxHeartbeats 8000000 in
theorem swap_walk (W : World) (oa : Option Addr) (on oc : Nat) (old : List Int) (pa : Option Addr) (n pc : Nat) (parts : List (List Int)) (At : Int) (last : Bool) (dir : Int) (ka : Option Addr) (kn kc : Nat) (keep : List Int)
    (hob : SB W (.slice oa on oc) old) (hoN : oa = none → oc = 0) (hoc : on ≤ oc) (hrb : RB W (.slice pa n pc) parts) (hik : IsAt W ka kn kc keep) :
    Calls Try.prog 6 #[.agg (swCells (.slice oa on oc) (.slice pa n pc) At last dir (.slice ka kn kc))] W fun e w' => e = .returned (.bool true) ∧ Below W.heap.size W w' := by
  have hal := (Below.refl W.heap.size W).alloc (Nat.le_refl _) (.cells (swCells (.slice oa on oc) (.slice pa n pc) At last dir (.slice ka kn kc)) 57)
  have hbx : (W.alloc (.cells (swCells (.slice oa on oc) (.slice pa n pc) At last dir (.slice ka kn kc)) 57)).heap[W.heap.size]? = some (.cells (swCells (.slice oa on oc) (.slice pa n pc) At last dir (.slice ka kn kc)) 57 (0, 0)) := heap_alloc_new W _
  have HLT : Hid (W.heap.size < (W.alloc (.cells (swCells (.slice oa on oc) (.slice pa n pc) At last dir (.slice ka kn kc)) 57)).heap.size) := Lib.hid (by rw [World.size_alloc]; omega)
  have HOB := Lib.hid (hob.below hal)
  have HRB := Lib.hid (hrb.below hal)
  have HIK := Lib.hid (hik.below hal)
  have HW0 : Hid (FinW W (W.alloc (.cells (swCells (.slice oa on oc) (.slice pa n pc) At last dir (.slice ka kn kc)) 57))) := Lib.hid fun w' hb => hal.trans (hb.mono hal.size)
  have hol := hob.len
  have hrl := hrb.len
  have hkl := hik.1
  have hkl2 := hik.2.2.2.1
  have HON := Lib.hid hoN
  have HBX : Hid (∀ w', Below (W.alloc (.cells (swCells (.slice oa on oc) (.slice pa n pc) At last dir (.slice ka kn kc)) 57)).heap.size (W.alloc (.cells (swCells (.slice oa on oc) (.slice pa n pc) At last dir (.slice ka kn kc)) 57)) w' → w'.cell? ⟨W.heap.size, 0, none⟩ = some (.slice oa on oc) ∧ w'.cell? ⟨W.heap.size, 1, none⟩ = some (.slice pa n pc) ∧ w'.cell? ⟨W.heap.size, 2, none⟩ = some (.int .i64 At) ∧ w'.cell? ⟨W.heap.size, 3, none⟩ = some (.bool last) ∧ w'.cell? ⟨W.heap.size, 4, none⟩ = some (.int .i64 dir) ∧ w'.cell? ⟨W.heap.size, 5, none⟩ = some (.slice ka kn kc)) := Lib.hid fun w' hs => by
    have hb := (hs.block W.heap.size HLT.out).trans hbx
    exact ⟨by rw [cell_of_row w' _ 0 _ _ _ hb]; rfl, by rw [cell_of_row w' _ 1 _ _ _ hb]; rfl, by rw [cell_of_row w' _ 2 _ _ _ hb]; rfl, by rw [cell_of_row w' _ 3 _ _ _ hb]; rfl, by rw [cell_of_row w' _ 4 _ _ _ hb]; rfl, by rw [cell_of_row w' _ 5 _ _ _ hb]; rfl⟩
  have HBI : Hid (∀ w', Below (W.alloc (.cells (swCells (.slice oa on oc) (.slice pa n pc) At last dir (.slice ka kn kc)) 57)).heap.size (W.alloc (.cells (swCells (.slice oa on oc) (.slice pa n pc) At last dir (.slice ka kn kc)) 57)) w' → w'.heap[W.heap.size]? = some (.cells (swCells (.slice oa on oc) (.slice pa n pc) At last dir (.slice ka kn kc)) 57 (0, 0))) := Lib.hid fun w' hs => (hs.block W.heap.size HLT.out).trans hbx
  clear hal hbx hob hrb hik hoN
  unfold swCells at *
  go_enter Try.func6, Try.ntmps6
  go_wp2_with fail
  generalize W.alloc (.cells #[.slice oa on oc, .slice pa n pc, .int .i64 At, .bool last, .int .i64 dir, .slice ka kn kc] 57) = w1 at *
  generalize W.heap.size = B at *
  go_loopw [3, 4] (fun x y wr => ∃ i : Nat, y = .int .i64 i ∧ i ≤ n ∧ x = .int .i64 ((parts.take i).flatten.length : Nat) ∧ (parts.take i).flatten.length ≤ 140737505128448 ∧ Below w1.heap.size w1 wr) (fun _ y _ => n - (intOf y).toNat)
  case atStart => exact ⟨0, rfl, Nat.zero_le _, by simp, by simp, Below.refl _ _⟩
  case round =>
    obtain ⟨i, rfl, hi, rfl, hcap, hbr⟩ := hrel
    obtain ⟨b0, b1, b2, b3, b4, b5⟩ := HBX.out wr hbr
    have HBR := Lib.hid hbr
    clear hbr
    by_cases hin : i = n
    · have hid' : decide (i < n) = false := by simp; omega
      have hft : (parts.take i).flatten = parts.flatten := by rw [hin, ← hrl.1, List.take_length]
      rw [hft]
      rw [hft] at hcap
      generalize hFL : parts.flatten.length = FL at *
      by_cases hbg : 16777216 < on + FL
      · have hd1 : decide (16777216 < wrap64 ((on : Int) + (FL : Int))) = true := decide_eq_true (by unfold wrap64; omega)
        clear hft hcap hin hi hbg
        go_wp2_with fail
        go_ret
        exact ⟨rfl, HW0.out _ HBR.out⟩
      · have hd1 : decide (16777216 < wrap64 ((on : Int) + (FL : Int))) = false := decide_eq_false (by unfold wrap64; omega)
        have HSZ : Hid (on + FL ≤ 16777216) := Lib.hid (by omega)
        have HFLQ := Lib.hid hFL
        clear hft hcap hin hi hbg
        by_cases hkb : 16777216 < kn
        · have hd3 : decide (16777216 < (kn : Int)) = true := decide_eq_true (by omega)
          go_wp2_with fail
          go_ret
          exact ⟨rfl, HW0.out _ HBR.out⟩
        · have hd3 : decide (16777216 < (kn : Int)) = false := decide_eq_false (by omega)
          clear hkb
          go_wp2_with fail
          refine (lives3_any wr).mono ?_
          rintro e w2 ⟨rfl, hb⟩
          have HB2 := Lib.hid (HBR.out.trans (hb.mono HBR.out.size))
          clear hb b0 b1 b2 b3 b4 b5 hd1 hd3 hid' HBR
          obtain ⟨b0, b1, b2, b3, b4, b5⟩ := HBX.out w2 HB2.out
          have HOB2 := Lib.hid (HOB.out.below HB2.out)
          have hal2 := (Below.refl w2.heap.size w2).alloc (Nat.le_refl _) (.cells #[.string kF, .slice oa on oc, .int .i64 on, .bool false] 53)
          obtain ⟨w2a, hw2a⟩ : ∃ x, x = w2.alloc (.cells #[.string ⟨#[102, 105, 108, 101]⟩, .slice oa on oc, .int .i64 on, .bool false] 53) := ⟨_, rfl⟩
          have hfs : FsAt w2a (some ⟨w2.heap.size, 0, none⟩) 1 1 [⟨kF, old, (on : Int), false⟩] := by rw [hw2a]; exact fs_one w2 oa on oc old HOB2.out HON.out hoc
          have hb2a : Below w2.heap.size w2 w2a := by rw [hw2a]; exact hal2
          have HFA := Lib.hid (from_any _ 16777216 _ 1 1 _ hfs (fun f hf => by rw [List.mem_singleton.1 hf]; exact nmF))
          have HB2a := Lib.hid (HB2.out.trans (hb2a.mono HB2.out.size))
          have HW2 := Lib.hid hw2a
          clear hfs hal2 hb2a hw2a
          go_wp2_with fail
          rw [← HW2.out]
          refine HFA.out.mono ?_
          intro e w3 hfr
          rw [show ((on : Nat) : Int) = (old.length : Int) by rw [hol.1]] at hfr
          obtain ⟨d, c3, p, s3, rfl, h3, hA, hp3, ht3, hpl3, hrm3, hbf⟩ := from_sw (by have := HSZ.out; omega) hfr
          have HB3 := Lib.hid (HB2a.out.trans (hbf.mono HB2a.out.size))
          have HBS : Hid (w1.heap.size ≤ w2a.heap.size) := Lib.hid HB2a.out.size
          have H3 := Lib.hid h3
          have HA := Lib.hid hA
          have HP3 := Lib.hid hp3
          have HT3 := Lib.hid ht3
          have HPL3 := Lib.hid hpl3
          have HRM3 := Lib.hid hrm3
          clear HBI h3 hA hp3 ht3 hpl3 hrm3 hbf HW2 hfr HFA HOB2 b0 b1 b2 b3 b4 b5
          unfold ptD
          obtain ⟨b0, b1, b2, b3, b4, b5⟩ := HBX.out w3 HB3.out
          by_cases hA1 : At < 1
          case' pos =>
            have hd1 : decide (1 ≤ At) = false := decide_eq_false (by omega)
            have H4 := H3
            have HB4 := HB3
            have HA4 := HA
            have HWY : Hid (Way s3 At 0) := Lib.hid ⟨HP3.out, HT3.out, by rw [HPL3.out]; unfold planP; rw [if_neg (by omega)], HRM3.out⟩
            have hd5 : decide (At < 1) = true := decide_eq_true hA1
            go_wp2_with fail
          case' neg =>
            have hd1 : decide (1 ≤ At) = true := decide_eq_true (by omega)
            have hbl := heap_alloc_new w3 (.cells #[.int .i64 At, .int .i64 24] 61)
            have hal3 := (Below.refl w3.heap.size w3).alloc (Nat.le_refl _) (.cells #[.int .i64 At, .int .i64 24] 61)
            have HPN := Lib.hid (plan_one (H3.out.below hal3) w3.heap.size At (by omega) (by rw [cell_of_row _ _ _ _ _ _ hbl]; rfl) (by rw [cell_of_row _ _ _ _ _ _ hbl]; rfl))
            have HAL3 := Lib.hid (HB3.out.trans (hal3.mono HB3.out.size))
            clear hbl hal3
            go_wp2_with fail
            unfold ptD at HPN
            refine HPN.out.mono ?_
            rintro e w4 ⟨rfl, c4, h4, st4⟩
            have HB4 := Lib.hid (HAL3.out.trans (st4.bel.mono HBS.out))
            have H4 := Lib.hid h4
            have hA4 := HA.out
            have HA4 := Lib.hid (show StA { s3 with plan := [(At, 24)], tries := 0 } p old from ⟨hA4.fo, hA4.du, hA4.pe, hA4.fp, hA4.hp, hA4.al⟩)
            have HWY : Hid (Way { s3 with plan := [(At, 24)], tries := 0 } At 0) := Lib.hid ⟨HP3.out, rfl, by unfold planP; rw [if_pos (by omega)], HRM3.out⟩
            have hd5 : decide (At < 1) = false := decide_eq_false (by omega)
            clear h4 st4 HPN HAL3 b0 b1 b2 b3 b4 b5 hA4
            obtain ⟨b0, b1, b2, b3, b4, b5⟩ := HBX.out w4 HB4.out
            go_wp2_with fail
          all_goals
            have HSW := Lib.hid (swapped_any w1 _ H4.out HBS.out HB4.out p old At HA4.out HWY.out oa on oc pa n pc parts HRB.out last dir ka kn kc (by have := HSZ.out; omega))
            unfold swCells ptD at HSW
            refine HSW.out.mono ?_
            rintro e w5 ⟨al, s5, c5, q, rfl, h5, st5, hpw5, hiff, hsw5⟩
            have HB5 := Lib.hid (HB4.out.trans (st5.bel.mono HBS.out))
            have H5 := Lib.hid h5
            have HP5 := Lib.hid hpw5
            have HIFF := Lib.hid hiff
            have HSW5 := Lib.hid hsw5
            clear h5 st5 hpw5 hiff hsw5 HSW HWY HA4 HB4 H4 HA HB3 H3 HP3 HT3 HPL3 HRM3 HB2a HB2 b0 b1 b2 b3 b4 b5
            obtain ⟨b0, b1, b2, b3, b4, b5⟩ := HBX.out w5 HB5.out
            try (have hlt : At < 1 := by assumption
                 obtain rfl : al = true := HIFF.out.2 (.inl hlt)
                 clear hlt)
          all_goals cases last
          all_goals (try cases al)
          all_goals
            try (have hge : 1 ≤ At := by assumption
                 have hd6 := sw_dec HIFF.out hge
                 clear hge)
            try (rw [if_pos rfl] at hd6)
            try (rw [if_neg (by decide), Int.add_zero] at hd6)
            clear HIFF
            go_wp2_with fail
            refine (power_dk H5.out).mono ?_
            rintro e w6 ⟨he, rfl⟩
            rw [HP5.out] at he
            subst he
            go_wp2_with fail
            refine (off_yes H5.out).mono ?_
            rintro e w6 ⟨rfl, h6, st6⟩
            have HB6 := Lib.hid (HB5.out.trans (st6.bel.mono HBS.out))
            have HS6 := Lib.hid (sw_off HSW5.out)
            have H6 := Lib.hid h6
            clear h6 st6 HSW5 H5 HP5 HB5 b0 b1 b2 b3 b4 b5
            obtain ⟨b0, b1, b2, b3, b4, b5⟩ := HBX.out w6 HB6.out
            have HST := Lib.hid (start_yes H6.out rfl dir ka kn kc keep (fun w' c' st => HIK.out.below (HB6.out.trans (st.bel.mono HBS.out))) (sw_pend HS6.out).1 (sw_syn HS6.out) (ap_small HS6.out dir).1 (ap_small HS6.out dir).2 (sw_pend HS6.out).2)
            unfold ptD at HST
            go_wp2_with fail
            refine HST.out.mono ?_
            rintro e w7 ⟨rfl, nl, c7, -, -, h7, st7⟩
            have HB7 := Lib.hid (HB6.out.trans (st7.bel.mono HBS.out))
            have H7 := Lib.hid h7
            obtain ⟨bb, hleft, hll⟩ := left_all HS6.out dir keep nl
            have hpw7 : (startM { s5 with power := false } dir keep nl).power = true := rfl
            generalize startM { s5 with power := false } dir keep nl = s7 at *
            have HLEFT := Lib.hid hleft
            have HNL : Hid (∀ l : List ByteArray, l.Perm (s7.folder.map (·.1)) → (l.map fun k => k.data.toList).Pairwise (· ≤ ·) → NmRes _ _ old parts.flatten bb l) := Lib.hid fun l hp hs => nm_left hleft hll hp hs
            have HPW7 := Lib.hid hpw7
            clear h7 st7 hleft hll hpw7 HST H6 HS6 HB6 b0 b1 b2 b3 b4 b5
            go_wp2_with fail
            have HZ7 : Hid (OwnB w7 w7.heap.size (.slice none 0 0) []) := Lib.hid (OwnB.nil _ _)
            go_loopw [10, 11] (fun x y wr => ∃ i : Nat, y = .int .i64 i ∧ i ≤ n ∧ OwnB wr w7.heap.size x (parts.take i).flatten ∧ IsB (parts.take i).flatten ∧ Below w7.heap.size w7 wr) (fun _ y _ => n - (intOf y).toNat)
            case atStart => exact ⟨0, rfl, Nat.zero_le _, HZ7.out, (by intro z; simp), Below.refl _ _⟩
            case round =>
              obtain ⟨j, rfl, hj, hown, hisb, hbr⟩ := hrel
              have HBJ := Lib.hid (HB7.out.trans (hbr.mono HB7.out.size))
              have HBK := Lib.hid hbr
              have HOWN := Lib.hid hown
              have HISB := Lib.hid hisb
              obtain ⟨xa, xc, hxv⟩ := OwnB.shape hown
              clear hbr hown hisb
              obtain ⟨b0, b1, b2, b3, b4, b5⟩ := HBX.out _ HBJ.out
              by_cases hjn : j = n
              · have hid' : decide (j < n) = false := by simp; omega
                have hft : (parts.take j).flatten = parts.flatten := by rw [hjn, ← hrl.1, List.take_length]
                rw [hft] at HOWN HISB
                have HFR := Lib.hid (HOWN.out.sb HISB.out (by have := HSZ.out; omega))
                have HRD := Lib.hid (read_yes (H7.out.below HBK.out) kF nmF)
                have HDJ := Lib.hid (H7.out.below HBK.out)
                unfold ptD at HRD
                unfold kF at HRD
                clear hft hjn hj hxv HOWN HISB HZ7 hd1 hd5
                go_wp2_with fail
                refine HRD.out.mono ?_
                rintro e w8 ⟨vb, he, ⟨hob, hbB, hbl⟩, hb8⟩
                have hrd := HLEFT.out.1
                unfold kF at hrd
                rw [hrd] at he hob hbB hbl
                subst he
                have HVB := Lib.hid (hob.sb hbB hbl)
                have HB8 := Lib.hid (HBJ.out.trans (hb8.mono HBJ.out.size))
                have HFR8 := Lib.hid (HFR.out.below hb8)
                have HD8 := Lib.hid (HDJ.out.below hb8)
                clear hob hbB hbl hb8 hrd HFR HDJ HRD HBJ HBK b0 b1 b2 b3 b4 b5
                obtain ⟨b0, b1, b2, b3, b4, b5⟩ := HBX.out w8 HB8.out
                have HOB8 := Lib.hid (HOB.out.below HB8.out)
                go_wp2_with fail
                refine (eqBytes_any _ _ _ _ _ HVB.out HOB8.out).mono ?_
                rintro e w9 ⟨rfl, n9, hw9⟩
                have hb9 : Below w8.heap.size w8 w9 := by rw [hw9]; exact below_drewN (Below.refl _ _) n9
                have HVB9 := Lib.hid (HVB.out.below hb9)
                have HFR9 := Lib.hid (HFR8.out.below hb9)
                have HD9 := Lib.hid (HD8.out.below hb9)
                have HB9 := Lib.hid (HB8.out.trans (hb9.mono HB8.out.size))
                clear hw9 hb9 HOB8 HVB HFR8 HD8 b0 b1 b2 b3 b4 b5
                go_wp2_with fail
                refine (eqBytes_any _ _ _ _ _ HVB9.out HFR9.out).mono ?_
                rintro e w10 ⟨rfl, n10, hw10⟩
                have hb10 : Below w9.heap.size w9 w10 := by rw [hw10]; exact below_drewN (Below.refl _ _) n10
                have HD10 := Lib.hid (HD9.out.below hb10)
                have HB10 := Lib.hid (HB9.out.trans (hb10.mono HB9.out.size))
                clear hw10 hb10 HVB9 HFR9 HD9
                have HNY := Lib.hid (names_yes HD10.out (left_small HLEFT.out).1 (left_small HLEFT.out).2)
                unfold ptD at HNY
                go_wp2_with fail
                refine HNY.out.mono ?_
                rintro e w11 ⟨vn, ln, rfl, hon, hb11, -, hpm⟩
                obtain ⟨hpm, hso⟩ := hpm HPW7.out
                have HB11 := Lib.hid (HB10.out.trans (hb11.mono HB10.out.size))
                obtain ⟨b0, b1, b2, b3, b4, b5⟩ := HBX.out w11 HB11.out
                have hnl := HNL.out ln hpm hso
                unfold NmRes at hnl
                generalize decide (bb = old) = ov at hnl ⊢
                generalize decide (bb = parts.flatten) = nv at hnl ⊢
                clear hpm hso hb11 HNY HD10 HLEFT HNL
                rcases hnl with ⟨rfl, hnl, hnv⟩ | ⟨rfl, hnl, hnv⟩
                · have hts := hon.ts (by simp)
                  obtain ⟨na, nc, rfl, -, -, -, hts⟩ := hts
                  rcases hts with hts | ⟨nb, no, rfl, hts⟩
                  · cases hts
                  · have c0 := hts 0 (by simp)
                    simp only [List.getElem?_cons_zero, Option.getD_some, Nat.add_zero] at c0
                    unfold kF at c0
                    clear hts hon
                    cases ov <;> cases nv <;> (try cases hnl) <;> (try cases hnv rfl rfl)
                    all_goals
                      go_wp2_with fail
                      go_ret
                      exact ⟨rfl, HW0.out _ HB11.out⟩
                · have hts := hon.ts (by simp)
                  obtain ⟨na, nc, rfl, -, -, -, hts⟩ := hts
                  subst hnl
                  rcases hts with hts | ⟨nb, no, rfl, hts⟩
                  · cases hts
                  · have c0 := hts 0 (by simp)
                    have c1 := hts 1 (by simp)
                    simp only [List.getElem?_cons_zero, List.getElem?_cons_succ, Option.getD_some, Nat.add_zero] at c0 c1
                    unfold kF at c0
                    unfold kN at c1
                    clear hts hon
                    cases nv <;> (try cases hnv)
                    all_goals
                      go_wp2_with fail
                      go_ret
                      exact ⟨rfl, HW0.out _ HB11.out⟩
              · have hid' : decide (j < n) = true := by simp; omega
                have hjl : j < n := by omega
                obtain ⟨g, o, hpa, hrd⟩ := HRB.out.read j hjl
                subst hpa
                obtain ⟨ad, m, cc, q00, sb0, hmc, hadn⟩ := hrd j hjl
                have q0 := (HBJ.out.cell (World.block_lt_of_cell? w1 _ q00)).trans q00
                have sb := sb0.below HBJ.out
                have hml := sb0.len
                have hfi := flat_step parts j (by omega)
                have hfl := take_flat_le parts (j + 1)
                rw [hfi, List.length_append] at hfl
                have HFI := Lib.hid hfi
                have HNJ : Hid (j < n) := Lib.hid hjl
                have hbs := HBK.out.size
                have hown := HOWN.out
                have HSB := Lib.hid sb
                have hsum : (parts.take j).flatten.length + m ≤ 140737488355328 := by have := HSZ.out; have := HFLQ.out; omega
                rw [hxv] at hown
                subst hxv
                clear hfl
                generalize (parts.take j).flatten = X at *
                generalize parts[j]?.getD [] = Y at *
                clear hrd q00 sb0 hfi hj hjn hjl HZ7 sb
                go_wp2_with (at_builtin; refine append_sbp rfl (.tmp 124) (.tmp 129) rfl w7.heap.size _ X Y ad m cc rfl hown rfl hadn HSB.out hsum hbs ?_)
                intro v9 w9 ho9 ha9
                have HO9 := Lib.hid ho9
                have HB9 := Lib.hid (ha9.bel _ _ HBK.out (Nat.le_refl _))
                clear ho9 ha9 hown hsum
                go_wp2_with fail
                go_roundw
                case rel => exact ⟨j + 1, by simp, HNJ.out, by rw [HFI.out]; exact HO9.out, by rw [HFI.out]; exact isB_app HISB.out HSB.out.1, HB9.out⟩
                case measure => have := HNJ.out; show n - ((j : Int) + 1).toNat < n - ((j : Int)).toNat; omega
    · by_cases hbig : 16777216 < (parts.take i).flatten.length
      · have hid' : decide (i < n) = true := by simp; omega
        generalize hFL : (parts.take i).flatten.length = FL at *
        have hd2 : decide ((FL : Int) ≤ 16777216) = false := decide_eq_false (by omega)
        have hd1 : decide (16777216 < wrap64 ((on : Int) + (FL : Int))) = true := decide_eq_true (by unfold wrap64; omega)
        clear hbig hcap hin hi
        go_wp2_with fail
        go_ret
        exact ⟨rfl, HW0.out _ HBR.out⟩
      · have hid' : decide (i < n) = true := by simp; omega
        have hid2 : decide ((((parts.take i).flatten.length : Nat) : Int) ≤ 16777216) = true := decide_eq_true (by omega)
        have hil : i < n := by omega
        obtain ⟨g, o, hpa, hrd⟩ := HRB.out.read i hil
        subst hpa
        obtain ⟨ad, m, cc, q00, sb0, hmc, hadn⟩ := hrd i hil
        have q0 := (HBR.out.cell (World.block_lt_of_cell? w1 _ q00)).trans q00
        have hml := sb0.len
        have hfi := flat_step parts i (by omega)
        have hfl : (parts.take (i + 1)).flatten.length = (parts.take i).flatten.length + m := by rw [hfi, List.length_append]; omega
        have HFL := Lib.hid hfl
        generalize hFL : (parts.take i).flatten.length = FL at *
        clear hfi hfl
        have hidB : Hid (i < n) := Lib.hid hil
        have HCP : Hid ((parts.take (i + 1)).flatten.length ≤ 140737505128448) := Lib.hid (by have := HFL.out; omega)
        have HWR : Hid (wrap64 ((FL : Int) + (m : Int)) = (((parts.take (i + 1)).flatten.length : Nat) : Int)) := Lib.hid (by have := HFL.out; unfold wrap64; omega)
        clear hin hil hi hbig hid' hcap
        go_wp2_with fail
        go_roundw
        case rel => exact ⟨i + 1, by simp, hidB.out, by rw [HWR.out], HCP.out, HBR.out⟩
        case measure => have := hidB.out; show n - ((i : Int) + 1).toNat < n - ((i : Int)).toNat; omega
end Go.Proofs.Ytaeiijncklmfdaa
