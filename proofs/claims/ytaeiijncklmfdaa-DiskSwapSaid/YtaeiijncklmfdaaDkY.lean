/-
  Layer 3: From, of any files.
-/
import Derived.Test.YtaeiijncklmfdaaDkP
import Derived.StillTailTactics
namespace Go.Proofs.Ytaeiijncklmfdaa
open Go.RowKit

def okL (L : List FlR) (k : Nat) : Prop := ∀ i, i < k → nmOk (L[i]?.getD fl0).name = true ∧ 0 ≤ (L[i]?.getD fl0).synced ∧ (L[i]?.getD fl0).synced ≤ ((L[i]?.getD fl0).bytes.length : Int) ∧ ∀ j, j < i → (L[j]?.getD fl0).name ≠ (L[i]?.getD fl0).name
def fsV (f : FlR) : ByteArray × FileS := (f.name, ⟨f.bytes, f.synced, f.bad⟩)
def FoldOf (F : List (ByteArray × Nat)) (fl : Nat → FileS) (L : List FlR) : Prop := F.map (fun x => (x.1, fl x.2)) = L.map fsV ∧ (F.map (·.2)).Nodup
def totL (L : List FlR) : Int := (L.map fun f => (f.bytes.length : Int)).sum
def FromPost (W : World) (room : Int) (L : List FlR) (e : Ending) (w' : World) : Prop :=
  Below W.heap.size W w' ∧
  ((e = .returned (.tuple #[.pointer none, .int .i64 1]) ∧ (room < 0 ∨ 16777216 < room ∨ 64 < L.length ∨ ¬ okL L L.length)) ∨
   (e = .returned (.tuple #[.pointer none, .int .i64 22]) ∧ room < wrap64 (totL L)) ∨
   ∃ d c F fl ps, e = .returned (.tuple #[ptD d, .int .i64 0]) ∧ Dk w' W.heap.size d ⟨room, true, F, F, [], [], 0, 0, fl, ps⟩ c ∧ (∀ k, k < W.heap.size → c k = 0) ∧ FoldOf F fl L ∧ ¬ room < wrap64 (totL L) ∧ ∀ p ∈ ps, p ∈ F.map (·.2))
theorem okL_step {L : List FlR} {k : Nat} (h : okL L k) (h1 : nmOk (L[k]?.getD fl0).name = true) (h2 : 0 ≤ (L[k]?.getD fl0).synced) (h3 : (L[k]?.getD fl0).synced ≤ ((L[k]?.getD fl0).bytes.length : Int)) (h4 : ∀ j, j < k → (L[j]?.getD fl0).name ≠ (L[k]?.getD fl0).name) : okL L (k + 1) := fun i hi => by
  by_cases e : i = k
  · subst e; exact ⟨h1, h2, h3, h4⟩
  · exact h i (by omega)
theorem get_none {F : List (ByteArray × Nat)} {k : ByteArray} (h : getK F k = none) : ∀ x ∈ F, x.1 ≠ k := by
  induction F with
  | nil => intro x hx; cases hx
  | cons y F ih =>
    unfold getK at h
    split at h
    · cases h
    · next hn =>
      intro x hx
      rcases List.mem_cons.1 hx with rfl | hx
      · exact fun e => hn ((MapKept.bytes_beq _ _).2 e)
      · exact ih h x hx
theorem get_some {F : List (ByteArray × Nat)} {k : ByteArray} {p : Nat} (h : getK F k = some p) : (k, p) ∈ F := by
  induction F with
  | nil => cases h
  | cons y F ih =>
    unfold getK at h
    split at h
    · next hn =>
      simp only [Option.some.injEq] at h
      have := (MapKept.bytes_beq _ _).1 hn
      rw [← this, ← h]
      exact List.mem_cons_self
    · exact List.mem_cons_of_mem _ (ih h)
theorem put_none {F : List (ByteArray × Nat)} {k : ByteArray} {p : Nat} (h : getK F k = none) : putK F k p = F ++ [(k, p)] := by
  induction F with
  | nil => rfl
  | cons y F ih =>
    unfold getK at h
    split at h
    · cases h
    · next hn =>
      unfold putK
      rw [if_neg hn, ih h]
      rfl
theorem FoldOf.step {F : List (ByteArray × Nat)} {fl : Nat → FileS} {L : List FlR} {k : Nat} (h : FoldOf F fl (L.take k)) (hk : k < L.length) {ps : List Nat} (hin : ∀ x ∈ F, x.2 ∈ ps) {q : Nat} (hq : q ∉ ps) (hg : getK F (L[k]?.getD fl0).name = none) :
    FoldOf (putK F (L[k]?.getD fl0).name q) (updF fl q ⟨(L[k]?.getD fl0).bytes, (L[k]?.getD fl0).synced, (L[k]?.getD fl0).bad⟩) (L.take (k + 1)) := by
  obtain ⟨h1, h2⟩ := h
  rw [put_none hg]
  have he : ∀ x ∈ F, updF fl q ⟨(L[k]?.getD fl0).bytes, (L[k]?.getD fl0).synced, (L[k]?.getD fl0).bad⟩ x.2 = fl x.2 := fun x hx => if_neg fun e => hq (by rw [← e]; exact hin x hx)
  refine ⟨?_, ?_⟩
  · rw [List.map_append, List.take_succ_eq_append_getElem hk, List.map_append, ← h1]
    congr 1
    · exact List.map_congr_left fun x hx => by rw [he x hx]
    · simp only [List.map_cons, List.map_nil, updF, if_true]
      rw [List.getElem?_eq_getElem hk]
      rfl
  · rw [List.map_append]
    refine List.nodup_append.2 ⟨h2, by simp, fun a ha b hb e => ?_⟩
    obtain ⟨x, hx, rfl⟩ := List.mem_map.1 ha
    simp at hb
    exact hq (by rw [← hb, ← e]; exact hin x hx)
theorem FoldOf.names {F : List (ByteArray × Nat)} {fl : Nat → FileS} {L : List FlR} (h : FoldOf F fl L) : F.map (·.1) = L.map FlR.name := by
  have := congrArg (List.map Prod.fst) h.1
  simpa [List.map_map, Function.comp_def, fsV] using this
theorem FoldOf.tot {F : List (ByteArray × Nat)} {fl : Nat → FileS} {L : List FlR} (h : FoldOf F fl L) : (F.map fun x => ((fl x.2).bytes.length : Int)).sum = totL L := by
  have := congrArg (List.map fun y : ByteArray × FileS => (y.2.bytes.length : Int)) h.1
  unfold totL
  rw [List.map_map, List.map_map] at this
  exact congrArg List.sum this
set_option maxRecDepth 100000 in
set_option maxHeartbeats 2000000 in
theorem from_any (W : World) (room : Int) (a : Option Addr) (n cc : Nat) (L : List FlR) (hL : FsAt W a n cc L) (hnm : ∀ f ∈ L, IsNm f.name) : Calls Try.prog 28 #[.int .i64 room, .slice a n cc] W (FromPost W room L) := by
  have hln := hL.1
  have HL := Lib.hid hL
  have HNM := Lib.hid hnm
  clear hL hnm
  by_cases hr : room < 0 ∨ 16777216 < room ∨ 64 < n
  · have HP : Hid (FromPost W room L (.returned (.tuple #[.pointer none, .int .i64 1])) W) := Lib.hid ⟨Below.refl _ _, .inl ⟨rfl, by rw [hln]; rcases hr with h | h | h; exact .inl h; exact .inr (.inl h); exact .inr (.inr (.inl h))⟩⟩
    by_cases h1 : room < 0
    · have d1 : decide (room < 0) = true := by simpa using h1
      go_enter Try.func28, Try.ntmps28
      go_wp2_with fail
      go_ret2
      exact HP.out
    · have d1 : decide (room < 0) = false := by simpa using h1
      by_cases h2 : 16777216 < room
      · have d2 : decide (16777216 < room) = true := by simpa using h2
        clear hr
        go_enter Try.func28, Try.ntmps28
        go_wp2_with fail
        go_ret2
        exact HP.out
      · have d2 : decide (16777216 < room) = false := by simpa using h2
        have h3 : 64 < n := by omega
        have d3 : decide ((64 : Int) < (n : Int)) = true := by simp; omega
        clear hr
        go_enter Try.func28, Try.ntmps28
        go_wp2_with fail
        go_ret2
        exact HP.out
  · have d1 : decide (room < 0) = false := by simp; omega
    have d2 : decide (16777216 < room) = false := by simp; omega
    have d3 : decide ((64 : Int) < (n : Int)) = false := by simp; omega
    have hmm := @run_makeMap Try.prog
    have HR := Lib.hid hr
    clear hr
    go_enter Try.func28, Try.ntmps28
    go_wp2_with fail
    go_loopw [24] (fun x wr => ∃ (k : Nat) (F : List (ByteArray × Nat)) (fl : Nat → FileS) (ps : List Nat) (c : Nat → Nat) (bv : Nat → Value), x = .int .i64 k ∧ k ≤ n ∧ Below W.heap.size W wr ∧ PreAt wr W.heap.size F fl ps c W.heap.size bv ∧ FoldOf F fl (L.take k) ∧ okL L k ∧ (∀ k, k < W.heap.size → c k = 0) ∧ ∀ p ∈ ps, p ∈ F.map (·.2)) (fun x _ => n - (intOf x).toNat)
    case atStart => exact ⟨0, [], _, [], _, _, rfl, Nat.zero_le _, (Below.refl _ _).alloc (Nat.le_refl _) _, pre_new W, ⟨rfl, List.nodup_nil⟩, (fun i hi => absurd hi (Nat.not_lt_zero _)), (fun k hk => if_neg (by omega)), fun p hp => by cases hp⟩
    case round =>
      obtain ⟨k, F, fl, ps, c, bv, rfl, hk, hb, hpre, hfo, hok, hc0, hpsF⟩ := hrel
      have HPSF := Lib.hid hpsF
      have HB := Lib.hid hb
      have HPR := Lib.hid hpre
      have HFO := Lib.hid hfo
      have HOK := Lib.hid hok
      have HC0 := Lib.hid hc0
      clear hb hpre hfo hok hc0 hmm hpsF
      by_cases hkn : k = n
      · have hkd : decide (k < n) = false := by simp; omega
        have hft : L.take k = L := by rw [hkn, ← hln]; exact List.take_length
        have HFT := Lib.hid hft
        have hcl := Lib.hid (mapsClone_any wr W.heap.size F HPR.out.fold)
        clear hft
        go_wp2_with fail
        refine hcl.out.mono ?_
        rintro e w2 ⟨rfl, hb2, hm2, hs2⟩
        obtain ⟨c3, hdk⟩ := HPR.out.disk room hm2 hb2 hs2
        have hto := total_any hdk
        have hbw : Below W.heap.size W (w2.alloc (.cells #[.int .i64 room, .bool true, .map (some W.heap.size), .map (some wr.heap.size), .slice none 0 0, .slice none 0 0, .int .i64 0, .int .i64 0, .bool true] 71)) := (HB.out.trans (hb2.mono HB.out.size)).alloc (Nat.le_trans HB.out.size hb2.size) _
        have htt : totM ⟨room, true, F, F, [], [], 0, 0, fl, ps⟩ = wrap64 (totL L) := by
          unfold totM
          have := HFO.out.tot
          rw [HFT.out] at this
          rw [← this]
        rw [htt] at hto
        unfold ptD at hto
        have HTO := Lib.hid hto
        have HDK := Lib.hid hdk
        have HBW := Lib.hid hbw
        have HCL : Hid (∀ k, k < W.heap.size → c3 k = 0) := Lib.hid fun q hq => Classical.byContradiction fun hne0 => by have := hdk.low q hne0; omega
        generalize hTV : wrap64 (totL L) = TV at *
        clear hb2 hm2 hs2 hdk hto hbw hcl htt
        go_wp2_with fail
        refine HTO.out.mono ?_
        rintro e w3 ⟨rfl, hb3⟩
        have HDK3 := Lib.hid (HDK.out.below hb3)
        have HB3 := Lib.hid (HBW.out.trans (hb3.mono HBW.out.size))
        clear hb3 HTO
        by_cases hT : room < TV
        · have dT : decide (room < TV) = true := by simpa using hT
          have HP : Hid (FromPost W room L (.returned (.tuple #[.pointer none, .int .i64 22])) w3) := Lib.hid ⟨HB3.out, .inr (.inl ⟨rfl, by rw [hTV]; exact hT⟩)⟩
          clear hT
          go_wp2_with fail
          go_ret2
          exact HP.out
        · have dT : decide (room < TV) = false := by simpa using hT
          have HP : Hid (FromPost W room L (.returned (.tuple #[ptD w2.heap.size, .int .i64 0])) w3) := Lib.hid ⟨HB3.out, .inr (.inr ⟨w2.heap.size, c3, F, fl, ps, rfl, ⟨_, _, _, _, _, HDK3.out⟩, HCL.out, by rw [← HFT.out]; exact HFO.out, by rw [hTV]; exact hT, HPSF.out⟩)⟩
          unfold ptD at HP
          clear hT
          go_wp2_with fail
          go_ret2
          exact HP.out
      · have hkd : decide (k < n) = true := by simp; omega
        have hkl : k < n := by omega
        obtain ⟨b, o, rfl, ad, nn, c1, q0, q1, q2, q3, sb, hsn, hsc⟩ := (HL.out.below HB.out).read k hkl
        have hnm := HNM.out (L[k]?.getD fl0) (by rw [List.getElem?_eq_getElem (by omega)]; exact List.getElem_mem _)
        generalize hf : L[k]?.getD fl0 = f at *
        have HSB := Lib.hid sb
        have HNMK := Lib.hid hnm
        have HSN := Lib.hid (And.intro hsn hsc)
        have HF := Lib.hid hf
        clear sb hnm hsn hsc hkn hf
        -- ROUND
        have hbox := (Below.refl wr.heap.size wr).alloc (Nat.le_refl _) (.cells #[.string f.name, .slice ad nn c1, .int .i64 f.synced, .bool f.bad] 53)
        have hb0 : (wr.alloc (.cells #[.string f.name, .slice ad nn c1, .int .i64 f.synced, .bool f.bad] 53)).heap[wr.heap.size]? = some (.cells #[.string f.name, .slice ad nn c1, .int .i64 f.synced, .bool f.bad] 53 (0, 0)) := heap_alloc_new wr _
        have HWA := Lib.hid hbox
        have HB0 := Lib.hid hb0
        have HBAD : Hid (¬ okL L (k + 1) → ∀ w', Below W.heap.size W w' → FromPost W room L (.returned (.tuple #[.pointer none, .int .i64 1])) w') := Lib.hid fun hno w' hbw => ⟨hbw, .inl ⟨rfl, .inr (.inr (.inr fun hall => hno fun i hi => hall i (by omega)))⟩⟩
        have HNMK' := Lib.hid (HNMK.out (wr.alloc (.cells #[.string f.name, .slice ad nn c1, .int .i64 f.synced, .bool f.bad] 53)))
        clear hbox hb0
        go_wp2_with fail
        refine HNMK'.out.mono ?_
        rintro e w2 ⟨rfl, hb2⟩
        have HB2 := Lib.hid (HB.out.trans ((HWA.out.trans (hb2.mono HWA.out.size)).mono HB.out.size))
        have HW2 := Lib.hid (HWA.out.trans (hb2.mono HWA.out.size))
        have HP2 := Lib.hid (HPR.out.below HW2.out)
        have HBX : Hid (w2.heap[wr.heap.size]? = some (.cells #[.string f.name, .slice ad nn c1, .int .i64 f.synced, .bool f.bad] 53 (0, 0))) := Lib.hid ((hb2.block _ (by simp)).trans HB0.out)
        have hlk := lookupK_run w2 W.heap.size F HP2.out.fold f.name
        have hsnn : (f.bytes.length : Int) = (nn : Int) := by have := HSB.out.len.1; omega
        have HSNN := Lib.hid hsnn
        have HNE : Hid (wr.heap.size ≠ W.heap.size) := Lib.hid fun e => by have := HPR.out.fold.lt; omega
        have HLT : Hid (wr.heap.size < w2.heap.size) := Lib.hid (by have := hb2.size; simp at this; omega)
        have d0 : w2.cell? ⟨wr.heap.size, 0, none⟩ = some (.string f.name) := by rw [cell_of_row w2 wr.heap.size 0 _ _ _ HBX.out]; rfl
        have d1 : w2.cell? ⟨wr.heap.size, 1, none⟩ = some (.slice ad nn c1) := by rw [cell_of_row w2 wr.heap.size 1 _ _ _ HBX.out]; rfl
        have d2 : w2.cell? ⟨wr.heap.size, 2, none⟩ = some (.int .i64 f.synced) := by rw [cell_of_row w2 wr.heap.size 2 _ _ _ HBX.out]; rfl
        have d3 : w2.cell? ⟨wr.heap.size, 3, none⟩ = some (.bool f.bad) := by rw [cell_of_row w2 wr.heap.size 3 _ _ _ HBX.out]; rfl
        have HS2B := Lib.hid (HSB.out.below HW2.out)
        have hn64 : n ≤ 64 := by have := HR.out; omega
        clear hb2 hsnn q0 q1 q2 q3 HWA HB0 HNMK' HNMK
        generalize wr.heap.size = B at *
        cases hA : nmOk f.name
        · have HA := Lib.hid hA
          clear hlk hA
          go_wp2_with fail
          go_ret2
          exact HBAD.out (fun hok => by have := (hok k (by omega)).1; rw [HF.out, HA.out] at this; cases this) _ HB2.out
        · have HA := Lib.hid hA
          cases hG : getK F f.name with
          | some p =>
            rw [hG] at hlk
            unfold ptV at hlk
            have HG := Lib.hid hG
            have hne : ∀ w, (binOp .neq 97 (.pointer (some ⟨p, 0, none⟩)) (.pointer none)).run Try.prog w = .ok (.bool true) w := fun w => by kernel_rfl
            clear hG hA
            go_wp2_with fail
            go_ret2
            exact HBAD.out (fun hok => by
              have hm : (f.name : ByteArray) ∈ (L.take k).map FlR.name := by rw [← HFO.out.names]; exact List.mem_map.2 ⟨_, get_some HG.out, rfl⟩
              obtain ⟨y, hy, ey⟩ := List.mem_map.1 hm
              obtain ⟨j, hj, ej⟩ := List.mem_iff_getElem.1 hy
              rw [List.length_take] at hj
              have := (hok k (by omega)).2.2.2 j (by omega)
              rw [HF.out, ← ey, ← ej, List.getElem_take, List.getElem?_eq_getElem (by omega)] at this
              exact this rfl) _ HB2.out
          | none =>
            rw [hG] at hlk
            unfold ptV at hlk
            have HG := Lib.hid hG
            have hne : ∀ w, (binOp .neq 97 (.pointer none) (.pointer none)).run Try.prog w = .ok (.bool false) w := fun w => by kernel_rfl
            clear hG hA
            by_cases hC : f.synced < 0
            · have dC : decide (f.synced < 0) = true := by simpa using hC
              have HC := Lib.hid hC
              clear hC
              go_wp2_with fail
              go_ret2
              exact HBAD.out (fun hok => by have h1 := (hok k (by omega)).2.1; have h2 := HC.out; rw [HF.out] at h1; omega) _ HB2.out
            · have dC : decide (f.synced < 0) = false := by simpa using hC
              have HC := Lib.hid hC
              by_cases hD : (nn : Int) < f.synced
              · have dD : decide ((nn : Int) < f.synced) = true := by simpa using hD
                have HD := Lib.hid hD
                clear hC hD
                go_wp2_with fail
                go_ret2
                exact HBAD.out (fun hok => by have h1 := (hok k (by omega)).2.2.1; have h2 := HD.out; have h3 := HSNN.out; rw [HF.out] at h1; omega) _ HB2.out
              · have dD : decide ((nn : Int) < f.synced) = false := by simpa using hD
                have HD := Lib.hid hD
                clear hC hD
                have e0 : w2.drew.cell? ⟨B, 0, none⟩ = some (.string f.name) := d0
                have e1 : w2.drew.cell? ⟨B, 1, none⟩ = some (.slice ad nn c1) := d1
                have e2 : w2.drew.cell? ⟨B, 2, none⟩ = some (.int .i64 f.synced) := d2
                have e3 : w2.drew.cell? ⟨B, 3, none⟩ = some (.bool f.bad) := d3
                go_upto_region 9 with fail
                refine wp_region_held_drew (S := fun w' => w'.cell? ⟨B, 0, none⟩ = some (.string f.name) ∧ w'.cell? ⟨B, 1, none⟩ = some (.slice ad nn c1) ∧ w'.cell? ⟨B, 2, none⟩ = some (.int .i64 f.synced) ∧ w'.cell? ⟨B, 3, none⟩ = some (.bool f.bad)) (by kernel_rfl) ⟨e0, e1, e2, e3⟩ (fun hHeld => ?_)
                have hdr : Below w2.heap.size w2 w2.drew := (Below.refl _ w2).drew
                have HPd := Lib.hid (HP2.out.below hdr)
                have HBd := Lib.hid (HB2.out.trans (hdr.mono HB2.out.size))
                have HSd := Lib.hid (HS2B.out.below hdr)
                have HLd : Hid (B < w2.drew.heap.size) := HLT
                clear hdr
                generalize w2.drew = wd at *
                refine wpAnyH_take (i := 0) (v := .map (some W.heap.size)) rfl (by kernel_rfl) (by kernel_rfl) (by kernel_rfl) (fun _ _ _ h => h) (Or.inl ⟨by rfl, by intro w hSw; (try dsimp only at hSw); go_simp⟩) (by assumption) ?_
                simp only [Act.put, List.getElem_toArray, List.getElem_cons_zero, List.setIfInBounds_toArray, List.set_cons_zero, List.set_cons_succ]
                refine wpAnyH_take (i := 1) (v := .pointer (some ⟨B, 0, none⟩)) rfl (by kernel_rfl) (by kernel_rfl) (by kernel_rfl) (fun _ _ _ h => h) (Or.inl ⟨by rfl, by intro w hSw; (try dsimp only at hSw); go_simp⟩) (by assumption) ?_
                simp only [Act.put, List.getElem_toArray, List.getElem_cons_zero, List.getElem_cons_succ, List.setIfInBounds_toArray, List.set_cons_zero, List.set_cons_succ]
                refine wpAnyH_take (i := 2) (v := .string f.name) rfl (by kernel_rfl) (by kernel_rfl) (by kernel_rfl) (fun _ _ _ h => h) (Or.inl ⟨by rfl, by intro w hSw; (try dsimp only at hSw); go_simp⟩) (by assumption) ?_
                simp only [Act.put, List.getElem_toArray, List.getElem_cons_zero, List.getElem_cons_succ, List.setIfInBounds_toArray, List.set_cons_zero, List.set_cons_succ]
                refine wpAnyH_take (i := 3) (v := .pointer (some ⟨B, 1, none⟩)) rfl (by kernel_rfl) (by kernel_rfl) (by kernel_rfl) (fun _ _ _ h => h) (Or.inl ⟨by rfl, by intro w hSw; (try dsimp only at hSw); go_simp⟩) (by assumption) ?_
                simp only [Act.put, List.getElem_toArray, List.getElem_cons_zero, List.getElem_cons_succ, List.setIfInBounds_toArray, List.set_cons_zero, List.set_cons_succ]
                refine wpAnyH_take (i := 4) (v := .slice ad nn c1) rfl (by kernel_rfl) (by kernel_rfl) (by kernel_rfl) (fun _ _ _ h => h) (Or.inl ⟨by rfl, by intro w hSw; (try dsimp only at hSw); go_simp⟩) (by assumption) ?_
                simp only [Act.put, List.getElem_toArray, List.getElem_cons_zero, List.getElem_cons_succ, List.setIfInBounds_toArray, List.set_cons_zero, List.set_cons_succ]
                refine wpAnyH_take (i := 6) (v := .pointer (some ⟨B, 2, none⟩)) rfl (by kernel_rfl) (by kernel_rfl) (by kernel_rfl) (fun _ _ _ h => h) (Or.inl ⟨by rfl, by intro w hSw; (try dsimp only at hSw); go_simp⟩) (by assumption) ?_
                simp only [Act.put, List.getElem_toArray, List.getElem_cons_zero, List.getElem_cons_succ, List.setIfInBounds_toArray, List.set_cons_zero, List.set_cons_succ]
                refine wpAnyH_take (i := 7) (v := .int .i64 f.synced) rfl (by kernel_rfl) (by kernel_rfl) (by kernel_rfl) (fun _ _ _ h => h) (Or.inl ⟨by rfl, by intro w hSw; (try dsimp only at hSw); go_simp⟩) (by assumption) ?_
                simp only [Act.put, List.getElem_toArray, List.getElem_cons_zero, List.getElem_cons_succ, List.setIfInBounds_toArray, List.set_cons_zero, List.set_cons_succ]
                refine wpAnyH_take (i := 8) (v := .pointer (some ⟨B, 3, none⟩)) rfl (by kernel_rfl) (by kernel_rfl) (by kernel_rfl) (fun _ _ _ h => h) (Or.inl ⟨by rfl, by intro w hSw; (try dsimp only at hSw); go_simp⟩) (by assumption) ?_
                simp only [Act.put, List.getElem_toArray, List.getElem_cons_zero, List.getElem_cons_succ, List.setIfInBounds_toArray, List.set_cons_zero, List.set_cons_succ]
                refine wpAnyH_take (i := 9) (v := .bool f.bad) rfl (by kernel_rfl) (by kernel_rfl) (by kernel_rfl) (fun _ _ _ h => h) (Or.inl ⟨by rfl, by intro w hSw; (try dsimp only at hSw); go_simp⟩) (by assumption) ?_
                simp only [Act.put, List.getElem_toArray, List.getElem_cons_zero, List.getElem_cons_succ, List.setIfInBounds_toArray, List.set_cons_zero, List.set_cons_succ]
                refine wpAnyH_ready (rs := [5]) (by kernel_rfl) (by simp) ?_
                refine AllReadyH.cons rfl (fun K hK => ?_) AllReadyH.nil
                go_simp
                refine (cloneB_any wd ad nn c1 f.bytes HSd.out HSN.out.1 HSN.out.2 (by have := HSd.out.len; omega)).mono ?_
                rintro e w4 ⟨v, rfl, hov, hb4⟩
                replace hHeld : w4.cell? ⟨B, 0, none⟩ = some (.string f.name) ∧ w4.cell? ⟨B, 1, none⟩ = some (.slice ad nn c1) ∧ w4.cell? ⟨B, 2, none⟩ = some (.int .i64 f.synced) ∧ w4.cell? ⟨B, 3, none⟩ = some (.bool f.bad) := ⟨(hb4.cell HLd.out).trans hHeld.1, (hb4.cell HLd.out).trans hHeld.2.1, (hb4.cell HLd.out).trans hHeld.2.2.1, (hb4.cell HLd.out).trans hHeld.2.2.2⟩
                refine hK.out _ _ hHeld (fun hHeld => ?_)
                clear hK K
                have HOV := Lib.hid hov
                have HB4 := Lib.hid hb4
                obtain ⟨va, vc, hvv⟩ := OwnB.shape hov
                generalize hLv : f.bytes.length = Lv at hvv
                subst hvv
                clear hov hb4
                refine wpAnyH_take (i := 10) (v := .agg #[.slice va Lv vc, .int .i64 f.synced, .bool f.bad]) rfl (by kernel_rfl) (by kernel_rfl) (by kernel_rfl) (fun _ _ _ h => h) (Or.inl ⟨by rfl, by intro w hSw; (try dsimp only at hSw); go_simp⟩) (by assumption) ?_
                simp only [Act.put, List.getElem_toArray, List.getElem_cons_zero, List.getElem_cons_succ, List.setIfInBounds_toArray, List.set_cons_zero, List.set_cons_succ]
                refine wpAnyH_ready (rs := [11]) (by kernel_rfl) (by simp) ?_
                refine AllReadyH.cons rfl (fun K hK => ?_) AllReadyH.nil
                go_simp
                have hal4 := (Below.refl w4.heap.size w4).alloc (Nat.le_refl _) (.cells #[.slice va Lv vc, .int .i64 f.synced, .bool f.bad] 100)
                have HL4 : Hid (B < w4.heap.size) := Lib.hid (Nat.lt_of_lt_of_le HLd.out HB4.out.size)
                replace hHeld : (w4.alloc (.cells #[.slice va Lv vc, .int .i64 f.synced, .bool f.bad] 100)).cell? ⟨B, 0, none⟩ = some (.string f.name) ∧ (w4.alloc (.cells #[.slice va Lv vc, .int .i64 f.synced, .bool f.bad] 100)).cell? ⟨B, 1, none⟩ = some (.slice ad nn c1) ∧ (w4.alloc (.cells #[.slice va Lv vc, .int .i64 f.synced, .bool f.bad] 100)).cell? ⟨B, 2, none⟩ = some (.int .i64 f.synced) ∧ (w4.alloc (.cells #[.slice va Lv vc, .int .i64 f.synced, .bool f.bad] 100)).cell? ⟨B, 3, none⟩ = some (.bool f.bad) := ⟨(hal4.cell HL4.out).trans hHeld.1, (hal4.cell HL4.out).trans hHeld.2.1, (hal4.cell HL4.out).trans hHeld.2.2.1, (hal4.cell HL4.out).trans hHeld.2.2.2⟩
                refine hK.out _ _ hHeld (fun hHeld => ?_)
                clear hK K
                refine wpAnyH_ready (rs := [12]) (by kernel_rfl) (by simp) ?_
                refine AllReadyH.cons rfl (fun K hK => ?_) AllReadyH.nil
                have hmf := (HPd.out.below (HB4.out.trans (hal4.mono HB4.out.size))).fold
                obtain ⟨ob, hr, hm⟩ := insertK_run (w4.alloc (.cells #[.slice va Lv vc, .int .i64 f.synced, .bool f.bad] 100)) W.heap.size F hmf f.name w4.heap.size
                unfold ptV at hr
                have hadd := HPd.out.add f.name ⟨f.bytes, f.synced, f.bad⟩ (.slice va Lv vc) HB4.out HOV.out HSd.out.1 (by show f.bytes.length ≤ _; have := HSd.out.len; omega) ob hm
                obtain ⟨c6, bv6, h6, hq6⟩ := hadd
                have hHeld2 : ({ (w4.alloc (.cells #[.slice va Lv vc, .int .i64 f.synced, .bool f.bad] 100)) with heap := (w4.alloc (.cells #[.slice va Lv vc, .int .i64 f.synced, .bool f.bad] 100)).heap.setIfInBounds W.heap.size ob } : World).cell? ⟨B, 0, none⟩ = some (.string f.name) ∧ ({ (w4.alloc (.cells #[.slice va Lv vc, .int .i64 f.synced, .bool f.bad] 100)) with heap := (w4.alloc (.cells #[.slice va Lv vc, .int .i64 f.synced, .bool f.bad] 100)).heap.setIfInBounds W.heap.size ob } : World).cell? ⟨B, 1, none⟩ = some (.slice ad nn c1) ∧ ({ (w4.alloc (.cells #[.slice va Lv vc, .int .i64 f.synced, .bool f.bad] 100)) with heap := (w4.alloc (.cells #[.slice va Lv vc, .int .i64 f.synced, .bool f.bad] 100)).heap.setIfInBounds W.heap.size ob } : World).cell? ⟨B, 2, none⟩ = some (.int .i64 f.synced) ∧ ({ (w4.alloc (.cells #[.slice va Lv vc, .int .i64 f.synced, .bool f.bad] 100)) with heap := (w4.alloc (.cells #[.slice va Lv vc, .int .i64 f.synced, .bool f.bad] 100)).heap.setIfInBounds W.heap.size ob } : World).cell? ⟨B, 3, none⟩ = some (.bool f.bad) := by
                  have hbk : ({ (w4.alloc (.cells #[.slice va Lv vc, .int .i64 f.synced, .bool f.bad] 100)) with heap := (w4.alloc (.cells #[.slice va Lv vc, .int .i64 f.synced, .bool f.bad] 100)).heap.setIfInBounds W.heap.size ob } : World).heap[B]? = (w4.alloc (.cells #[.slice va Lv vc, .int .i64 f.synced, .bool f.bad] 100)).heap[B]? := by
                    show ((w4.alloc (.cells #[.slice va Lv vc, .int .i64 f.synced, .bool f.bad] 100)).heap.setIfInBounds W.heap.size ob)[B]? = _
                    rw [Array.getElem?_setIfInBounds_ne (fun e => HNE.out e.symm)]
                  exact ⟨(cell_heap hbk 0).trans hHeld.1, (cell_heap hbk 1).trans hHeld.2.1, (cell_heap hbk 2).trans hHeld.2.2.1, (cell_heap hbk 3).trans hHeld.2.2.2⟩
                have hBf : Below W.heap.size W ({ (w4.alloc (.cells #[.slice va Lv vc, .int .i64 f.synced, .bool f.bad] 100)) with heap := (w4.alloc (.cells #[.slice va Lv vc, .int .i64 f.synced, .bool f.bad] 100)).heap.setIfInBounds W.heap.size ob } : World) :=
                  below_setBlock ob ((HBd.out.trans (HB4.out.mono HBd.out.size)).trans (hal4.mono (Nat.le_trans HBd.out.size HB4.out.size))) (Nat.le_refl _)
                have hfo6 := HFO.out.step (by omega) HPd.out.fin hq6 (by rw [HF.out]; exact HG.out)
                rw [HF.out] at hfo6
                have hok6 := okL_step HOK.out (by rw [HF.out]; exact HA.out) (by rw [HF.out]; have := HC.out; omega) (by rw [HF.out, HSNN.out]; have := HD.out; omega) (fun j hj => by
                  rw [HF.out]
                  intro e
                  have hm2 : (L[j]?.getD fl0).name ∈ F.map (·.1) := by
                    rw [HFO.out.names]
                    refine List.mem_map.2 ⟨L[j]?.getD fl0, ?_, rfl⟩
                    rw [List.getElem?_eq_getElem (by omega)]
                    exact List.mem_take_iff_getElem.2 ⟨j, by omega, rfl⟩
                  obtain ⟨y, hy, ey⟩ := List.mem_map.1 hm2
                  exact get_none HG.out y hy (by rw [ey, e]))
                have HFIN : Hid (∃ (F : List (ByteArray × Nat)) (fl : Nat → FileS) (ps : List Nat) (c : Nat → Nat) (bv : Nat → Value), Below W.heap.size W ({ (w4.alloc (.cells #[.slice va Lv vc, .int .i64 f.synced, .bool f.bad] 100)) with heap := (w4.alloc (.cells #[.slice va Lv vc, .int .i64 f.synced, .bool f.bad] 100)).heap.setIfInBounds W.heap.size ob } : World) ∧ PreAt ({ (w4.alloc (.cells #[.slice va Lv vc, .int .i64 f.synced, .bool f.bad] 100)) with heap := (w4.alloc (.cells #[.slice va Lv vc, .int .i64 f.synced, .bool f.bad] 100)).heap.setIfInBounds W.heap.size ob } : World) W.heap.size F fl ps c W.heap.size bv ∧ FoldOf F fl (L.take (k + 1)) ∧ okL L (k + 1) ∧ (∀ k, k < W.heap.size → c k = 0) ∧ ∀ p ∈ ps, p ∈ F.map (·.2)) :=
                  Lib.hid ⟨_, _, _, c6, bv6, hBf, h6, hfo6, hok6, (fun q hq => Classical.byContradiction fun hne0 => by have := h6.low q hne0; omega), fun p hp => by
                    rw [put_none HG.out, List.map_append]
                    rcases List.mem_cons.1 hp with rfl | hp
                    · exact List.mem_append_right _ (by simp)
                    · exact List.mem_append_left _ (HPSF.out p hp)⟩
                clear hBf h6 hfo6 hok6 hm hmf hal4 hq6
                generalize hWb : ({ (w4.alloc (.cells #[.slice va Lv vc, .int .i64 f.synced, .bool f.bad] 100)) with heap := (w4.alloc (.cells #[.slice va Lv vc, .int .i64 f.synced, .bool f.bad] 100)).heap.setIfInBounds W.heap.size ob } : World) = wb at hr hHeld2 HFIN
                go_simp
                refine hK.out _ _ hHeld2 (fun hHeld => ?_)
                clear hK K hr hWb
                refine wpAnyH_done (by kernel_rfl) ?_ _
                go_wp2_with fail
                obtain ⟨F7, fl7, ps7, c7, bv7, x1, x2, x3, x4, x5, x6⟩ := HFIN.out
                go_roundw
                case rel => exact ⟨k + 1, F7, fl7, ps7, c7, bv7, by simp, by omega, x1, x2, x3, x4, x5, x6⟩
                case measure => simp [intOf]; omega
end Go.Proofs.Ytaeiijncklmfdaa
