/-
  galleyref07.Shaped and galleyref08.New.
-/
import Derived.Test.YtfmcjmkdlldlhaaDoorLgC
import Derived.Test.YtfmcjmkdlldlhaaDoorLgOi
namespace Go.Proofs.YtfmcjmkdlldlhaaDoor
open Go.RowKit
attribute [local go_sem] Oper.semAt_some

theorem insOk_ref (n i : Nat) (a : Ins) (hi : i < n) : insOk n i a = true ↔ (1 ≤ a.op ∧ a.op ≤ 6) ∧ (a.op ≠ 1 → a.set = noneL) ∧ (0 ≤ a.x ∧ a.x ≤ (if a.op = 4 ∨ a.op = 5 then (n : Int) - 1 else 0)) ∧ (0 ≤ a.y ∧ a.y ≤ (if a.op = 5 then (n : Int) - 1 else 0)) ∧ ¬ (a.op ≤ 3 ∧ i + 1 = n) := by
  unfold insOk
  by_cases o1 : a.op = 1
  · rw [if_pos o1, if_neg (by omega : ¬ (a.op = 4 ∨ a.op = 5)), if_neg (by omega : ¬ a.op = 5)]
    simp only [Bool.and_eq_true, decide_eq_true_eq]
    exact ⟨fun ⟨⟨h1, h2⟩, h3⟩ => ⟨⟨by omega, by omega⟩, fun h => absurd o1 h, ⟨by omega, by omega⟩, ⟨by omega, by omega⟩, by omega⟩, fun ⟨_, _, h1, h2, h3⟩ => ⟨⟨by omega, by omega⟩, by omega⟩⟩
  rw [if_neg o1]
  by_cases o2 : a.op = 2 ∨ a.op = 3
  · rw [if_pos o2, if_neg (by omega : ¬ (a.op = 4 ∨ a.op = 5)), if_neg (by omega : ¬ a.op = 5)]
    simp only [Bool.and_eq_true, decide_eq_true_eq]
    exact ⟨fun ⟨⟨⟨h1, h2⟩, h3⟩, h4⟩ => ⟨⟨by omega, by omega⟩, fun _ => h2, ⟨by omega, by omega⟩, ⟨by omega, by omega⟩, by omega⟩, fun ⟨_, h0, h1, h2, h3⟩ => ⟨⟨⟨by omega, h0 o1⟩, by omega⟩, by omega⟩⟩
  rw [if_neg o2]
  by_cases o4 : a.op = 4
  · rw [if_pos o4, if_pos (.inl o4), if_neg (by omega : ¬ a.op = 5)]
    simp only [Bool.and_eq_true, decide_eq_true_eq]
    exact ⟨fun ⟨⟨⟨h1, h2⟩, h3⟩, h4⟩ => ⟨⟨by omega, by omega⟩, fun _ => h3, ⟨by omega, by omega⟩, ⟨by omega, by omega⟩, by omega⟩, fun ⟨_, h0, h1, h2, h3⟩ => ⟨⟨⟨by omega, by omega⟩, h0 o1⟩, by omega⟩⟩
  rw [if_neg o4]
  by_cases o5 : a.op = 5
  · rw [if_pos o5, if_pos (.inr o5), if_pos o5]
    simp only [Bool.and_eq_true, decide_eq_true_eq]
    exact ⟨fun ⟨⟨⟨⟨h1, h2⟩, h3⟩, h4⟩, h5⟩ => ⟨⟨by omega, by omega⟩, fun _ => h5, ⟨by omega, by omega⟩, ⟨by omega, by omega⟩, by omega⟩, fun ⟨_, h0, h1, h2, h3⟩ => ⟨⟨⟨⟨by omega, by omega⟩, by omega⟩, by omega⟩, h0 o1⟩⟩
  rw [if_neg o5, if_neg (by omega : ¬ (a.op = 4 ∨ a.op = 5)), if_neg o5]
  simp only [Bool.and_eq_true, decide_eq_true_eq]
  exact ⟨fun ⟨⟨⟨h1, h2⟩, h3⟩, h4⟩ => ⟨⟨by omega, by omega⟩, fun _ => h2, ⟨by omega, by omega⟩, ⟨by omega, by omega⟩, by omega⟩, fun ⟨h9, h0, h1, h2, h3⟩ => ⟨⟨⟨by omega, h0 o1⟩, by omega⟩, by omega⟩⟩
theorem eq4b (w : World) (p0 p1 p2 p3 : Nat) : (Op.equalIn 10000 41 (.agg #[.int .u64 (p0 : Int), .int .u64 (p1 : Int), .int .u64 (p2 : Int), .int .u64 (p3 : Int)]) (.agg #[.int .u64 0, .int .u64 0, .int .u64 0, .int .u64 0])).run Tryd.prog w = .ok (decide ([p0, p1, p2, p3] = noneL)) w := by
  have h := run_equalIn_rowC w 9998 [p0, p1, p2, p3] noneL rfl rfl
  simpa only [row64, noneL, List.map_cons, List.map_nil, Int.ofNat_zero] using h
theorem ref_bad {n k : Nat} {x : Ins} (h : insOk n k x = true → False) : insOk n k x = false := by
  cases hi : insOk n k x with
  | false => rfl
  | true => exact absurd hi h
set_option maxRecDepth 100000 in
set_option maxHeartbeats 4000000 in
theorem rshaped_any (W : World) (M : List Ins) (a : Option Addr) (n c : Nat) (h : MI W a n c M) (hR : ∀ x ∈ M, InR x) :
    Calls Tryd.prog 26 #[.slice a n c] W fun e W' => e = .returned (.bool (shapedM M)) ∧ Below W.heap.size W W' := by
  have hlen : M.length = n := h.2.1
  have H := Lib.hid h
  have HR := Lib.hid hR
  have HL := Lib.hid hlen
  clear h hlen hR
  go_enter Tryd.func26, Tryd.ntmps26
  by_cases h1 : n < 1
  · have e1 : decide ((n : Int) < 1) = true := decide_eq_true (by omega)
    have HS := Lib.hid h1
    clear h1
    go_wp2_with fail
    go_ret
    have hs : shapedM M = false := by unfold shapedM; rw [HL.out, decide_eq_false (by have := HS.out; omega)]; rfl
    exact ⟨by rw [hs]; rfl, Below.refl _ _⟩
  · by_cases h2 : 65540 < n
    · have e1 : decide ((n : Int) < 1) = false := decide_eq_false (by omega)
      have e2 : decide ((65540 : Int) < (n : Int)) = true := decide_eq_true (by omega)
      have HS := Lib.hid h2
      clear h1 h2
      go_wp2_with fail
      go_ret
      have hs : shapedM M = false := by unfold shapedM; rw [HL.out, decide_eq_false (by have := HS.out; omega : ¬ n ≤ 65540), Bool.and_false]; rfl
      exact ⟨by rw [hs]; rfl, Below.refl _ _⟩
    · have e1 : decide ((n : Int) < 1) = false := decide_eq_false (by omega)
      have e2 : decide ((65540 : Int) < (n : Int)) = false := decide_eq_false (by omega)
      have HS := Lib.hid (And.intro h1 h2)
      clear h1 h2
      go_wp2_with fail
      go_loopw [3] (fun i wr => ∃ k, k ≤ n ∧ i = .int .i64 k ∧ Below W.heap.size W wr ∧ allOk n 0 (M.take k) = true) (fun i _ => n - (intOf i).toNat)
      case atStart => exact ⟨0, Nat.zero_le _, rfl, Below.refl _ _, by simp [allOk]⟩
      case round =>
        obtain ⟨k, hk, rfl, hbw, hall⟩ := hrel
        have HBW := Lib.hid hbw
        have HA := Lib.hid hall
        clear hbw hall
        by_cases hkl : k < n
        · obtain ⟨x, hx⟩ : ∃ x, M[k]? = some x := ⟨M[k]'(by rw [HL.out]; exact hkl), List.getElem?_eq_getElem _⟩
          have hm := H.out.below HBW.out
          have hC := H.out.1 x (List.mem_of_getElem? hx)
          obtain ⟨p0, p1, p2, p3, hp⟩ := isC_words x.set hC
          obtain ⟨b, off, rfl, d0, d1, d2, d3, d4, d5, d6⟩ := hm.instr hx hp
          have HX := Lib.hid (And.intro hx hp)
          have hkI : (k : Int) < (n : Int) := by omega
          clear hm hC hx hp
          have hq := fun w => eq4b w p0 p1 p2 p3
          have hkw : IntKind.i64.wrap ((k : Int) + 1) = (k : Int) + 1 := IntWalk.i64_in _ (by have := HS.out; omega)
          have hnw : IntKind.i64.wrap ((n : Int) - 1) = (n : Int) - 1 := IntWalk.i64_in _ (by have := HS.out; omega)
          have hxr := HR.out x (List.mem_of_getElem? HX.out.1)
          have hwx : wrap64 x.op = x.op := by have := hxr.1; unfold wrap64; omega
          have HXO := Lib.hid hxr.1
          clear hxr
          by_cases o4 : x.op = 4
          · rw [o4] at d0
            clear hwx
            by_cases hs : [p0, p1, p2, p3] ≠ noneL
            · have es : decide ([p0, p1, p2, p3] = noneL) = false := decide_eq_false hs
              have HB := Lib.hid (shaped_bad HX.out.1 HL.out (ref_bad fun h => by
                obtain ⟨⟨h1, h1'⟩, h2, ⟨h3, h3'⟩, ⟨h4, h4'⟩, h5⟩ := (insOk_ref n k x hkl).1 h
                exact hs (HX.out.2 ▸ h2 (by omega))))
              go_wp2_with fail
              go_ret
              exact ⟨by rw [HB.out]; rfl, HBW.out⟩
            have hs := Decidable.not_not.1 hs
            have es : decide ([p0, p1, p2, p3] = noneL) = true := decide_eq_true hs
            by_cases bx0 : x.x < 0
            · have ebx0 : decide ((x.x : Int) < (0 : Int)) = true := decide_eq_true (by omega)
              have HB := Lib.hid (shaped_bad HX.out.1 HL.out (ref_bad fun h => by
                obtain ⟨⟨h1, h1'⟩, h2, ⟨h3, h3'⟩, ⟨h4, h4'⟩, h5⟩ := (insOk_ref n k x hkl).1 h
                omega))
              go_wp2_with fail
              go_ret
              exact ⟨by rw [HB.out]; rfl, HBW.out⟩
            have ebx0 : decide ((x.x : Int) < (0 : Int)) = false := decide_eq_false (by omega)
            by_cases bx1 : (n : Int) - 1 < x.x
            · have ebx1 : decide (((n : Int) - 1 : Int) < (x.x : Int)) = true := decide_eq_true (by omega)
              have HB := Lib.hid (shaped_bad HX.out.1 HL.out (ref_bad fun h => by
                obtain ⟨⟨h1, h1'⟩, h2, ⟨h3, h3'⟩, ⟨h4, h4'⟩, h5⟩ := (insOk_ref n k x hkl).1 h
                rw [if_pos (by omega)] at h3'; omega))
              go_wp2_with fail
              go_ret
              exact ⟨by rw [HB.out]; rfl, HBW.out⟩
            have ebx1 : decide (((n : Int) - 1 : Int) < (x.x : Int)) = false := decide_eq_false (by omega)
            by_cases by0 : x.y < 0
            · have eby0 : decide ((x.y : Int) < (0 : Int)) = true := decide_eq_true (by omega)
              have HB := Lib.hid (shaped_bad HX.out.1 HL.out (ref_bad fun h => by
                obtain ⟨⟨h1, h1'⟩, h2, ⟨h3, h3'⟩, ⟨h4, h4'⟩, h5⟩ := (insOk_ref n k x hkl).1 h
                omega))
              go_wp2_with fail
              go_ret
              exact ⟨by rw [HB.out]; rfl, HBW.out⟩
            have eby0 : decide ((x.y : Int) < (0 : Int)) = false := decide_eq_false (by omega)
            by_cases by1 : 0 < x.y
            · have eby1 : decide ((0 : Int) < (x.y : Int)) = true := decide_eq_true (by omega)
              have HB := Lib.hid (shaped_bad HX.out.1 HL.out (ref_bad fun h => by
                obtain ⟨⟨h1, h1'⟩, h2, ⟨h3, h3'⟩, ⟨h4, h4'⟩, h5⟩ := (insOk_ref n k x hkl).1 h
                rw [if_neg (by omega)] at h4'; omega))
              go_wp2_with fail
              go_ret
              exact ⟨by rw [HB.out]; rfl, HBW.out⟩
            have eby1 : decide ((0 : Int) < (x.y : Int)) = false := decide_eq_false (by omega)
            have HB := Lib.hid ((insOk_ref n k x hkl).2 ⟨by omega, fun _ => HX.out.2.trans hs, by rw [if_pos (by omega)]; omega, by rw [if_neg (by omega)]; omega, by omega⟩)
            go_wp2_with fail
            go_roundw
            case rel => exact ⟨k + 1, hkl, by go_num, HBW.out, by rw [allOk_take M k x HX.out.1, HA.out, HB.out]; rfl⟩
            case measure => simp [intOf]; omega
          by_cases o5 : x.op = 5
          · rw [o5] at d0
            clear hwx
            by_cases hs : [p0, p1, p2, p3] ≠ noneL
            · have es : decide ([p0, p1, p2, p3] = noneL) = false := decide_eq_false hs
              have HB := Lib.hid (shaped_bad HX.out.1 HL.out (ref_bad fun h => by
                obtain ⟨⟨h1, h1'⟩, h2, ⟨h3, h3'⟩, ⟨h4, h4'⟩, h5⟩ := (insOk_ref n k x hkl).1 h
                exact hs (HX.out.2 ▸ h2 (by omega))))
              go_wp2_with fail
              go_ret
              exact ⟨by rw [HB.out]; rfl, HBW.out⟩
            have hs := Decidable.not_not.1 hs
            have es : decide ([p0, p1, p2, p3] = noneL) = true := decide_eq_true hs
            by_cases bx0 : x.x < 0
            · have ebx0 : decide ((x.x : Int) < (0 : Int)) = true := decide_eq_true (by omega)
              have HB := Lib.hid (shaped_bad HX.out.1 HL.out (ref_bad fun h => by
                obtain ⟨⟨h1, h1'⟩, h2, ⟨h3, h3'⟩, ⟨h4, h4'⟩, h5⟩ := (insOk_ref n k x hkl).1 h
                omega))
              go_wp2_with fail
              go_ret
              exact ⟨by rw [HB.out]; rfl, HBW.out⟩
            have ebx0 : decide ((x.x : Int) < (0 : Int)) = false := decide_eq_false (by omega)
            by_cases bx1 : (n : Int) - 1 < x.x
            · have ebx1 : decide (((n : Int) - 1 : Int) < (x.x : Int)) = true := decide_eq_true (by omega)
              have HB := Lib.hid (shaped_bad HX.out.1 HL.out (ref_bad fun h => by
                obtain ⟨⟨h1, h1'⟩, h2, ⟨h3, h3'⟩, ⟨h4, h4'⟩, h5⟩ := (insOk_ref n k x hkl).1 h
                rw [if_pos (by omega)] at h3'; omega))
              go_wp2_with fail
              go_ret
              exact ⟨by rw [HB.out]; rfl, HBW.out⟩
            have ebx1 : decide (((n : Int) - 1 : Int) < (x.x : Int)) = false := decide_eq_false (by omega)
            by_cases by0 : x.y < 0
            · have eby0 : decide ((x.y : Int) < (0 : Int)) = true := decide_eq_true (by omega)
              have HB := Lib.hid (shaped_bad HX.out.1 HL.out (ref_bad fun h => by
                obtain ⟨⟨h1, h1'⟩, h2, ⟨h3, h3'⟩, ⟨h4, h4'⟩, h5⟩ := (insOk_ref n k x hkl).1 h
                omega))
              go_wp2_with fail
              go_ret
              exact ⟨by rw [HB.out]; rfl, HBW.out⟩
            have eby0 : decide ((x.y : Int) < (0 : Int)) = false := decide_eq_false (by omega)
            by_cases by1 : (n : Int) - 1 < x.y
            · have eby1 : decide (((n : Int) - 1 : Int) < (x.y : Int)) = true := decide_eq_true (by omega)
              have HB := Lib.hid (shaped_bad HX.out.1 HL.out (ref_bad fun h => by
                obtain ⟨⟨h1, h1'⟩, h2, ⟨h3, h3'⟩, ⟨h4, h4'⟩, h5⟩ := (insOk_ref n k x hkl).1 h
                rw [if_pos (by omega)] at h4'; omega))
              go_wp2_with fail
              go_ret
              exact ⟨by rw [HB.out]; rfl, HBW.out⟩
            have eby1 : decide (((n : Int) - 1 : Int) < (x.y : Int)) = false := decide_eq_false (by omega)
            have HB := Lib.hid ((insOk_ref n k x hkl).2 ⟨by omega, fun _ => HX.out.2.trans hs, by rw [if_pos (by omega)]; omega, by rw [if_pos (by omega)]; omega, by omega⟩)
            go_wp2_with fail
            go_roundw
            case rel => exact ⟨k + 1, hkl, by go_num, HBW.out, by rw [allOk_take M k x HX.out.1, HA.out, HB.out]; rfl⟩
            case measure => simp [intOf]; omega
          have e4 : (x.op == 4) = false := beq_eq_false_iff_ne.2 o4
          have e5 : (x.op == 5) = false := beq_eq_false_iff_ne.2 o5
          by_cases lo : x.op < 1
          · have elo : decide (x.op < 1) = true := decide_eq_true (by omega)
            have HB := Lib.hid (shaped_bad HX.out.1 HL.out (ref_bad fun h => by
              obtain ⟨⟨h1, h1'⟩, h2, ⟨h3, h3'⟩, ⟨h4, h4'⟩, h5⟩ := (insOk_ref n k x hkl).1 h
              omega))
            go_wp2_with fail
            go_ret
            exact ⟨by rw [HB.out]; rfl, HBW.out⟩
          have elo : decide (x.op < 1) = false := decide_eq_false (by omega)
          by_cases hi : 6 < x.op
          · have ehi : decide (6 < x.op) = true := decide_eq_true (by omega)
            have HB := Lib.hid (shaped_bad HX.out.1 HL.out (ref_bad fun h => by
              obtain ⟨⟨h1, h1'⟩, h2, ⟨h3, h3'⟩, ⟨h4, h4'⟩, h5⟩ := (insOk_ref n k x hkl).1 h
              omega))
            go_wp2_with fail
            go_ret
            exact ⟨by rw [HB.out]; rfl, HBW.out⟩
          have ehi : decide (6 < x.op) = false := decide_eq_false (by omega)
          have e3 : decide (x.op ≤ 3) = decide (x.op ≤ 3) := rfl
          by_cases o1 : x.op = 1
          · rw [o1] at d0
            have HO1 := Lib.hid o1
            clear hwx e4 e5 elo ehi e3
            by_cases bx0 : x.x < 0
            · have ebx0 : decide ((x.x : Int) < (0 : Int)) = true := decide_eq_true (by omega)
              have HB := Lib.hid (shaped_bad HX.out.1 HL.out (ref_bad fun h => by
                obtain ⟨⟨h1, h1'⟩, h2, ⟨h3, h3'⟩, ⟨h4, h4'⟩, h5⟩ := (insOk_ref n k x hkl).1 h
                omega))
              go_wp2_with fail
              go_ret
              exact ⟨by rw [HB.out]; rfl, HBW.out⟩
            have ebx0 : decide ((x.x : Int) < (0 : Int)) = false := decide_eq_false (by omega)
            by_cases bx1 : 0 < x.x
            · have ebx1 : decide ((0 : Int) < (x.x : Int)) = true := decide_eq_true (by omega)
              have HB := Lib.hid (shaped_bad HX.out.1 HL.out (ref_bad fun h => by
                obtain ⟨⟨h1, h1'⟩, h2, ⟨h3, h3'⟩, ⟨h4, h4'⟩, h5⟩ := (insOk_ref n k x hkl).1 h
                rw [if_neg (by omega)] at h3'; omega))
              go_wp2_with fail
              go_ret
              exact ⟨by rw [HB.out]; rfl, HBW.out⟩
            have ebx1 : decide ((0 : Int) < (x.x : Int)) = false := decide_eq_false (by omega)
            by_cases by0 : x.y < 0
            · have eby0 : decide ((x.y : Int) < (0 : Int)) = true := decide_eq_true (by omega)
              have HB := Lib.hid (shaped_bad HX.out.1 HL.out (ref_bad fun h => by
                obtain ⟨⟨h1, h1'⟩, h2, ⟨h3, h3'⟩, ⟨h4, h4'⟩, h5⟩ := (insOk_ref n k x hkl).1 h
                omega))
              go_wp2_with fail
              go_ret
              exact ⟨by rw [HB.out]; rfl, HBW.out⟩
            have eby0 : decide ((x.y : Int) < (0 : Int)) = false := decide_eq_false (by omega)
            by_cases by1 : 0 < x.y
            · have eby1 : decide ((0 : Int) < (x.y : Int)) = true := decide_eq_true (by omega)
              have HB := Lib.hid (shaped_bad HX.out.1 HL.out (ref_bad fun h => by
                obtain ⟨⟨h1, h1'⟩, h2, ⟨h3, h3'⟩, ⟨h4, h4'⟩, h5⟩ := (insOk_ref n k x hkl).1 h
                rw [if_neg (by omega)] at h4'; omega))
              go_wp2_with fail
              go_ret
              exact ⟨by rw [HB.out]; rfl, HBW.out⟩
            have eby1 : decide ((0 : Int) < (x.y : Int)) = false := decide_eq_false (by omega)
            have o3 : x.op ≤ 3 := by omega
            clear o3
            by_cases ol : k + 1 = n
            · have el : ((k : Int) == (n : Int) - 1) = true := beq_iff_eq.2 (by omega)
              have HB := Lib.hid (shaped_bad HX.out.1 HL.out (ref_bad fun h => by
                obtain ⟨⟨h1, h1'⟩, h2, ⟨h3, h3'⟩, ⟨h4, h4'⟩, h5⟩ := (insOk_ref n k x hkl).1 h
                omega))
              go_wp2_with fail
              go_ret
              exact ⟨by rw [HB.out]; rfl, HBW.out⟩
            · have el : ((k : Int) == (n : Int) - 1) = false := beq_eq_false_iff_ne.2 (by omega)
              have HB := Lib.hid ((insOk_ref n k x hkl).2 ⟨by omega, fun h => absurd HO1.out h, by rw [if_neg (by omega)]; omega, by rw [if_neg (by omega)]; omega, by omega⟩)
              go_wp2_with fail
              go_roundw
              case rel => exact ⟨k + 1, hkl, by go_num, HBW.out, by rw [allOk_take M k x HX.out.1, HA.out, HB.out]; rfl⟩
              case measure => simp [intOf]; omega
          have e1 : (x.op == 1) = false := beq_eq_false_iff_ne.2 o1
          by_cases hs : [p0, p1, p2, p3] ≠ noneL
          · have es : decide ([p0, p1, p2, p3] = noneL) = false := decide_eq_false hs
            have HB := Lib.hid (shaped_bad HX.out.1 HL.out (ref_bad fun h => by
              obtain ⟨⟨h1, h1'⟩, h2, ⟨h3, h3'⟩, ⟨h4, h4'⟩, h5⟩ := (insOk_ref n k x hkl).1 h
              exact hs (HX.out.2 ▸ h2 (by omega))))
            go_wp2_with fail
            go_ret
            exact ⟨by rw [HB.out]; rfl, HBW.out⟩
          have hs := Decidable.not_not.1 hs
          have es : decide ([p0, p1, p2, p3] = noneL) = true := decide_eq_true hs
          by_cases bx0 : x.x < 0
          · have ebx0 : decide ((x.x : Int) < (0 : Int)) = true := decide_eq_true (by omega)
            have HB := Lib.hid (shaped_bad HX.out.1 HL.out (ref_bad fun h => by
              obtain ⟨⟨h1, h1'⟩, h2, ⟨h3, h3'⟩, ⟨h4, h4'⟩, h5⟩ := (insOk_ref n k x hkl).1 h
              omega))
            go_wp2_with fail
            go_ret
            exact ⟨by rw [HB.out]; rfl, HBW.out⟩
          have ebx0 : decide ((x.x : Int) < (0 : Int)) = false := decide_eq_false (by omega)
          by_cases bx1 : 0 < x.x
          · have ebx1 : decide ((0 : Int) < (x.x : Int)) = true := decide_eq_true (by omega)
            have HB := Lib.hid (shaped_bad HX.out.1 HL.out (ref_bad fun h => by
              obtain ⟨⟨h1, h1'⟩, h2, ⟨h3, h3'⟩, ⟨h4, h4'⟩, h5⟩ := (insOk_ref n k x hkl).1 h
              rw [if_neg (by omega)] at h3'; omega))
            go_wp2_with fail
            go_ret
            exact ⟨by rw [HB.out]; rfl, HBW.out⟩
          have ebx1 : decide ((0 : Int) < (x.x : Int)) = false := decide_eq_false (by omega)
          by_cases by0 : x.y < 0
          · have eby0 : decide ((x.y : Int) < (0 : Int)) = true := decide_eq_true (by omega)
            have HB := Lib.hid (shaped_bad HX.out.1 HL.out (ref_bad fun h => by
              obtain ⟨⟨h1, h1'⟩, h2, ⟨h3, h3'⟩, ⟨h4, h4'⟩, h5⟩ := (insOk_ref n k x hkl).1 h
              omega))
            go_wp2_with fail
            go_ret
            exact ⟨by rw [HB.out]; rfl, HBW.out⟩
          have eby0 : decide ((x.y : Int) < (0 : Int)) = false := decide_eq_false (by omega)
          by_cases by1 : 0 < x.y
          · have eby1 : decide ((0 : Int) < (x.y : Int)) = true := decide_eq_true (by omega)
            have HB := Lib.hid (shaped_bad HX.out.1 HL.out (ref_bad fun h => by
              obtain ⟨⟨h1, h1'⟩, h2, ⟨h3, h3'⟩, ⟨h4, h4'⟩, h5⟩ := (insOk_ref n k x hkl).1 h
              rw [if_neg (by omega)] at h4'; omega))
            go_wp2_with fail
            go_ret
            exact ⟨by rw [HB.out]; rfl, HBW.out⟩
          have eby1 : decide ((0 : Int) < (x.y : Int)) = false := decide_eq_false (by omega)
          by_cases o3 : x.op ≤ 3
          · have e3 : decide (x.op ≤ 3) = true := decide_eq_true o3
            by_cases ol : k + 1 = n
            · have el : ((k : Int) == (n : Int) - 1) = true := beq_iff_eq.2 (by omega)
              have HB := Lib.hid (shaped_bad HX.out.1 HL.out (ref_bad fun h => by
                obtain ⟨⟨h1, h1'⟩, h2, ⟨h3, h3'⟩, ⟨h4, h4'⟩, h5⟩ := (insOk_ref n k x hkl).1 h
                omega))
              go_wp2_with fail
              go_ret
              exact ⟨by rw [HB.out]; rfl, HBW.out⟩
            · have el : ((k : Int) == (n : Int) - 1) = false := beq_eq_false_iff_ne.2 (by omega)
              have HB := Lib.hid ((insOk_ref n k x hkl).2 ⟨by omega, fun _ => HX.out.2.trans hs, by rw [if_neg (by omega)]; omega, by rw [if_neg (by omega)]; omega, by omega⟩)
              go_wp2_with fail
              go_roundw
              case rel => exact ⟨k + 1, hkl, by go_num, HBW.out, by rw [allOk_take M k x HX.out.1, HA.out, HB.out]; rfl⟩
              case measure => simp [intOf]; omega
          · have e3 : decide (x.op ≤ 3) = false := decide_eq_false o3
            have HB := Lib.hid ((insOk_ref n k x hkl).2 ⟨by omega, fun _ => HX.out.2.trans hs, by rw [if_neg (by omega)]; omega, by rw [if_neg (by omega)]; omega, by omega⟩)
            go_wp2_with fail
            go_roundw
            case rel => exact ⟨k + 1, hkl, by go_num, HBW.out, by rw [allOk_take M k x HX.out.1, HA.out, HB.out]; rfl⟩
            case measure => simp [intOf]; omega
        · have e0 : k = n := by omega
          have HE := Lib.hid e0
          clear e0
          have hkI : ¬ (k : Int) < (n : Int) := by omega
          go_wp2_with fail
          go_ret
          have hs : shapedM M = true := by
            have h := HA.out
            rw [HE.out, ← HL.out, List.take_length] at h
            have h1 := HS.out
            have h2 := HL.out
            unfold shapedM
            rw [decide_eq_true (by omega : 1 ≤ M.length), decide_eq_true (by omega : M.length ≤ 65540), h]; rfl
          exact ⟨by rw [hs]; rfl, HBW.out⟩
end Go.Proofs.YtfmcjmkdlldlhaaDoor
