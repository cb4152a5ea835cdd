/-
  Is a list of instructions well shaped?
-/
import Derived.Test.YtfmcjmkdlldlhaaDoorLgN
import Derived.Test.YtfmcjmkdlldlhaaDoorLgZ
namespace Go.Proofs.YtfmcjmkdlldlhaaDoor
open Go.RowKit
theorem eq4 (w : World) (p0 p1 p2 p3 : Nat) : (Op.equalIn 9999 41 (.agg #[.int .u64 (p0 : Int), .int .u64 (p1 : Int), .int .u64 (p2 : Int), .int .u64 (p3 : Int)]) (.agg #[.int .u64 0, .int .u64 0, .int .u64 0, .int .u64 0])).run Tryd.prog w = .ok (decide ([p0, p1, p2, p3] = noneL)) w := by
  have h := run_equalIn_rowC w 9997 [p0, p1, p2, p3] noneL rfl rfl
  simpa only [row64, noneL, List.map_cons, List.map_nil, Int.ofNat_zero] using h
theorem eq40 (w : World) : (Op.equalIn 9999 41 (.agg #[.int .u64 0, .int .u64 0, .int .u64 0, .int .u64 0]) (.agg #[.int .u64 0, .int .u64 0, .int .u64 0, .int .u64 0])).run Tryd.prog w = .ok true w := eq4 w 0 0 0 0
theorem shaped_bad {M : List Ins} {n k : Nat} {x : Ins} (hx : M[k]? = some x) (hn : M.length = n) (h : insOk n k x = false) : shapedM M = false := by
  cases hs : shapedM M with
  | false => rfl
  | true =>
    simp only [shapedM, Bool.and_eq_true, decide_eq_true_eq] at hs
    have := allOk_at hs.2 hx
    rw [hn, Nat.zero_add, h] at this
    cases this
attribute [local go_sem] Oper.semAt_some

set_option maxRecDepth 100000 in
set_option maxHeartbeats 4000000 in
theorem shaped_any (W : World) (M : List Ins) (a : Option Addr) (n c : Nat) (h : MI W a n c M) :
    Calls Tryd.prog 24 #[.slice a n c] W fun e W' => e = .returned (.bool (shapedM M)) ∧ Below W.heap.size W W' := by
  have hlen : M.length = n := h.2.1
  have H := Lib.hid h
  have HL := Lib.hid hlen
  clear h hlen
  go_enter Tryd.func24, Tryd.ntmps24
  by_cases h1 : n < 1
  · have e1 : decide ((n : Int) < 1) = true := decide_eq_true (by omega)
    have HS := Lib.hid h1
    clear h1
    go_wp2_with fail
    go_ret
    have hs : shapedM M = false := by unfold shapedM; rw [HL.out, decide_eq_false (by have := HS.out; omega)]; rfl
    exact ⟨by rw [hs]; rfl, Below.refl _ _⟩
  · by_cases h2 : 65540 < n
    · have e1 : decide ((n : Int) < 1) = false := decide_eq_false (by omega)
      have e2 : decide ((65540 : Int) < (n : Int)) = true := decide_eq_true (by omega)
      have HS := Lib.hid h2
      clear h1 h2
      go_wp2_with fail
      go_ret
      have hs : shapedM M = false := by unfold shapedM; rw [HL.out, decide_eq_false (by have := HS.out; omega : ¬ n ≤ 65540), Bool.and_false]; rfl
      exact ⟨by rw [hs]; rfl, Below.refl _ _⟩
    · have e1 : decide ((n : Int) < 1) = false := decide_eq_false (by omega)
      have e2 : decide ((65540 : Int) < (n : Int)) = false := decide_eq_false (by omega)
      have HS := Lib.hid (And.intro h1 h2)
      clear h1 h2
      go_wp2_with fail
      go_loopw [16] (fun i wr => ∃ k, k ≤ n ∧ i = .int .i64 k ∧ Below W.heap.size W wr ∧ allOk n 0 (M.take k) = true) (fun i _ => n - (intOf i).toNat)
      case atStart => exact ⟨0, Nat.zero_le _, rfl, Below.refl _ _, by simp [allOk]⟩
      case round =>
        obtain ⟨k, hk, rfl, hbw, hall⟩ := hrel
        have HBW := Lib.hid hbw
        have HA := Lib.hid hall
        clear hbw hall
        by_cases hkl : k < n
        · obtain ⟨x, hx⟩ : ∃ x, M[k]? = some x := ⟨M[k]'(by rw [HL.out]; exact hkl), List.getElem?_eq_getElem _⟩
          have hm := H.out.below HBW.out
          have hC := H.out.1 x (List.mem_of_getElem? hx)
          obtain ⟨p0, p1, p2, p3, hp⟩ := isC_words x.set hC
          obtain ⟨b, off, rfl, d0, d1, d2, d3, d4, d5, d6⟩ := hm.instr hx hp
          have HX := Lib.hid (And.intro hx hp)
          have hkI : (k : Int) < (n : Int) := by omega
          clear hm hC hx hp
          -- ARMS
          have hq := fun w => eq4 w p0 p1 p2 p3
          have hq0 := eq40
          have hkw : IntKind.i64.wrap ((k : Int) + 1) = (k : Int) + 1 := IntWalk.i64_in _ (by have := HS.out; omega)
          by_cases o1 : x.op = 1
          · rw [o1] at d0
            by_cases hl : k + 1 ≠ n
            · have f1 : decide ((k : Int) + 1 = (n : Int)) = false := decide_eq_false (by omega)
              have f1b : ((k : Int) + 1 == (n : Int)) = false := by simpa using f1
              by_cases hxz : x.x = 0
              · skip
                by_cases hyz : x.y = 0
                · skip
                  have hb : insOk n k x = true := by simp [insOk, o1, hl, hxz, hyz]
                  have HB := Lib.hid hb
                  clear hb
                  go_wp2_with fail
                  go_roundw
                  case rel => exact ⟨k + 1, hkl, by go_num, (HBW.out.alloc HBW.out.size _).alloc (HBW.out.alloc HBW.out.size _).size _, by rw [allOk_take M k x HX.out.1, HA.out, HB.out]; rfl⟩
                  case measure => simp [intOf]; omega
                · skip
                  have hb := shaped_bad HX.out.1 HL.out (by simp [insOk, o1, hl, hxz, hyz])
                  have HB := Lib.hid hb
                  clear hb
                  go_wp2_with fail
                  go_ret
                  exact ⟨by rw [HB.out]; rfl, (HBW.out.alloc HBW.out.size _).alloc (HBW.out.alloc HBW.out.size _).size _⟩
              · skip
                have hb := shaped_bad HX.out.1 HL.out (by simp [insOk, o1, hl, hxz])
                have HB := Lib.hid hb
                clear hb
                go_wp2_with fail
                go_ret
                exact ⟨by rw [HB.out]; rfl, (HBW.out.alloc HBW.out.size _).alloc (HBW.out.alloc HBW.out.size _).size _⟩
            · have f1 : decide ((k : Int) + 1 = (n : Int)) = true := decide_eq_true (by omega)
              have f1b : ((k : Int) + 1 == (n : Int)) = true := by simpa using f1
              have hb := shaped_bad HX.out.1 HL.out (by simp [insOk, o1, hl])
              have HB := Lib.hid hb
              clear hb
              go_wp2_with fail
              go_ret
              exact ⟨by rw [HB.out]; rfl, (HBW.out.alloc HBW.out.size _).alloc (HBW.out.alloc HBW.out.size _).size _⟩
          by_cases o2 : x.op = 2
          · rw [o2] at d0
            by_cases hl : k + 1 ≠ n
            · have f1 : decide ((k : Int) + 1 = (n : Int)) = false := decide_eq_false (by omega)
              have f1b : ((k : Int) + 1 == (n : Int)) = false := by simpa using f1
              by_cases hset : x.set = noneL
              · have f2 : decide ([p0, p1, p2, p3] = noneL) = true := decide_eq_true (by rw [← HX.out.2]; exact hset)
                rw [f2] at hq
                by_cases hxz : x.x = 0
                · skip
                  by_cases hyz : x.y = 0
                  · skip
                    have hb : insOk n k x = true := by simp [insOk, o2, hl, hset, hxz, hyz]
                    have HB := Lib.hid hb
                    clear hb
                    go_wp2_with fail
                    go_roundw
                    case rel => exact ⟨k + 1, hkl, by go_num, (HBW.out.alloc HBW.out.size _).alloc (HBW.out.alloc HBW.out.size _).size _, by rw [allOk_take M k x HX.out.1, HA.out, HB.out]; rfl⟩
                    case measure => simp [intOf]; omega
                  · skip
                    have hb := shaped_bad HX.out.1 HL.out (by simp [insOk, o2, hl, hset, hxz, hyz])
                    have HB := Lib.hid hb
                    clear hb
                    go_wp2_with fail
                    go_ret
                    exact ⟨by rw [HB.out]; rfl, (HBW.out.alloc HBW.out.size _).alloc (HBW.out.alloc HBW.out.size _).size _⟩
                · skip
                  have hb := shaped_bad HX.out.1 HL.out (by simp [insOk, o2, hl, hset, hxz])
                  have HB := Lib.hid hb
                  clear hb
                  go_wp2_with fail
                  go_ret
                  exact ⟨by rw [HB.out]; rfl, (HBW.out.alloc HBW.out.size _).alloc (HBW.out.alloc HBW.out.size _).size _⟩
              · have f2 : decide ([p0, p1, p2, p3] = noneL) = false := decide_eq_false (by rw [← HX.out.2]; exact hset)
                rw [f2] at hq
                have hb := shaped_bad HX.out.1 HL.out (by simp [insOk, o2, hl, hset])
                have HB := Lib.hid hb
                clear hb
                go_wp2_with fail
                go_ret
                exact ⟨by rw [HB.out]; rfl, (HBW.out.alloc HBW.out.size _).alloc (HBW.out.alloc HBW.out.size _).size _⟩
            · have f1 : decide ((k : Int) + 1 = (n : Int)) = true := decide_eq_true (by omega)
              have f1b : ((k : Int) + 1 == (n : Int)) = true := by simpa using f1
              have hb := shaped_bad HX.out.1 HL.out (by simp [insOk, o2, hl])
              have HB := Lib.hid hb
              clear hb
              go_wp2_with fail
              go_ret
              exact ⟨by rw [HB.out]; rfl, (HBW.out.alloc HBW.out.size _).alloc (HBW.out.alloc HBW.out.size _).size _⟩
          by_cases o3 : x.op = 3
          · rw [o3] at d0
            by_cases hl : k + 1 ≠ n
            · have f1 : decide ((k : Int) + 1 = (n : Int)) = false := decide_eq_false (by omega)
              have f1b : ((k : Int) + 1 == (n : Int)) = false := by simpa using f1
              by_cases hset : x.set = noneL
              · have f2 : decide ([p0, p1, p2, p3] = noneL) = true := decide_eq_true (by rw [← HX.out.2]; exact hset)
                rw [f2] at hq
                by_cases hxz : x.x = 0
                · skip
                  by_cases hyz : x.y = 0
                  · skip
                    have hb : insOk n k x = true := by simp [insOk, o3, hl, hset, hxz, hyz]
                    have HB := Lib.hid hb
                    clear hb
                    go_wp2_with fail
                    go_roundw
                    case rel => exact ⟨k + 1, hkl, by go_num, (HBW.out.alloc HBW.out.size _).alloc (HBW.out.alloc HBW.out.size _).size _, by rw [allOk_take M k x HX.out.1, HA.out, HB.out]; rfl⟩
                    case measure => simp [intOf]; omega
                  · skip
                    have hb := shaped_bad HX.out.1 HL.out (by simp [insOk, o3, hl, hset, hxz, hyz])
                    have HB := Lib.hid hb
                    clear hb
                    go_wp2_with fail
                    go_ret
                    exact ⟨by rw [HB.out]; rfl, (HBW.out.alloc HBW.out.size _).alloc (HBW.out.alloc HBW.out.size _).size _⟩
                · skip
                  have hb := shaped_bad HX.out.1 HL.out (by simp [insOk, o3, hl, hset, hxz])
                  have HB := Lib.hid hb
                  clear hb
                  go_wp2_with fail
                  go_ret
                  exact ⟨by rw [HB.out]; rfl, (HBW.out.alloc HBW.out.size _).alloc (HBW.out.alloc HBW.out.size _).size _⟩
              · have f2 : decide ([p0, p1, p2, p3] = noneL) = false := decide_eq_false (by rw [← HX.out.2]; exact hset)
                rw [f2] at hq
                have hb := shaped_bad HX.out.1 HL.out (by simp [insOk, o3, hl, hset])
                have HB := Lib.hid hb
                clear hb
                go_wp2_with fail
                go_ret
                exact ⟨by rw [HB.out]; rfl, (HBW.out.alloc HBW.out.size _).alloc (HBW.out.alloc HBW.out.size _).size _⟩
            · have f1 : decide ((k : Int) + 1 = (n : Int)) = true := decide_eq_true (by omega)
              have f1b : ((k : Int) + 1 == (n : Int)) = true := by simpa using f1
              have hb := shaped_bad HX.out.1 HL.out (by simp [insOk, o3, hl])
              have HB := Lib.hid hb
              clear hb
              go_wp2_with fail
              go_ret
              exact ⟨by rw [HB.out]; rfl, (HBW.out.alloc HBW.out.size _).alloc (HBW.out.alloc HBW.out.size _).size _⟩
          by_cases o4 : x.op = 4
          · rw [o4] at d0
            by_cases hx0 : 0 ≤ x.x
            · have gx : decide (x.x < 0) = false := decide_eq_false (by omega)
              by_cases hx1 : x.x < n
              · have kx : decide ((n : Int) ≤ x.x) = false := decide_eq_false (by omega)
                by_cases hset : x.set = noneL
                · have f2 : decide ([p0, p1, p2, p3] = noneL) = true := decide_eq_true (by rw [← HX.out.2]; exact hset)
                  rw [f2] at hq
                  by_cases hyz : x.y = 0
                  · skip
                    have hb : insOk n k x = true := by simp [insOk, o4, hx0, hx1, hset, hyz]
                    have HB := Lib.hid hb
                    clear hb
                    go_wp2_with fail
                    go_roundw
                    case rel => exact ⟨k + 1, hkl, by go_num, (HBW.out.alloc HBW.out.size _).alloc (HBW.out.alloc HBW.out.size _).size _, by rw [allOk_take M k x HX.out.1, HA.out, HB.out]; rfl⟩
                    case measure => simp [intOf]; omega
                  · skip
                    have hb := shaped_bad HX.out.1 HL.out (by simp [insOk, o4, hx0, hx1, hset, hyz])
                    have HB := Lib.hid hb
                    clear hb
                    go_wp2_with fail
                    go_ret
                    exact ⟨by rw [HB.out]; rfl, (HBW.out.alloc HBW.out.size _).alloc (HBW.out.alloc HBW.out.size _).size _⟩
                · have f2 : decide ([p0, p1, p2, p3] = noneL) = false := decide_eq_false (by rw [← HX.out.2]; exact hset)
                  rw [f2] at hq
                  have hb := shaped_bad HX.out.1 HL.out (by simp [insOk, o4, hx0, hx1, hset])
                  have HB := Lib.hid hb
                  clear hb
                  go_wp2_with fail
                  go_ret
                  exact ⟨by rw [HB.out]; rfl, (HBW.out.alloc HBW.out.size _).alloc (HBW.out.alloc HBW.out.size _).size _⟩
              · have kx : decide ((n : Int) ≤ x.x) = true := decide_eq_true (by omega)
                have hb := shaped_bad HX.out.1 HL.out (by simp [insOk, o4, hx0, hx1])
                have HB := Lib.hid hb
                clear hb
                go_wp2_with fail
                go_ret
                exact ⟨by rw [HB.out]; rfl, (HBW.out.alloc HBW.out.size _).alloc (HBW.out.alloc HBW.out.size _).size _⟩
            · have gx : decide (x.x < 0) = true := decide_eq_true (by omega)
              have hb := shaped_bad HX.out.1 HL.out (by simp [insOk, o4, hx0])
              have HB := Lib.hid hb
              clear hb
              go_wp2_with fail
              go_ret
              exact ⟨by rw [HB.out]; rfl, (HBW.out.alloc HBW.out.size _).alloc (HBW.out.alloc HBW.out.size _).size _⟩
          by_cases o5 : x.op = 5
          · rw [o5] at d0
            by_cases hy0 : 0 ≤ x.y
            · have gy : decide (x.y < 0) = false := decide_eq_false (by omega)
              by_cases hy1 : x.y < n
              · have ky : decide ((n : Int) ≤ x.y) = false := decide_eq_false (by omega)
                by_cases hx0 : 0 ≤ x.x
                · have gx : decide (x.x < 0) = false := decide_eq_false (by omega)
                  by_cases hx1 : x.x < n
                  · have kx : decide ((n : Int) ≤ x.x) = false := decide_eq_false (by omega)
                    by_cases hset : x.set = noneL
                    · have f2 : decide ([p0, p1, p2, p3] = noneL) = true := decide_eq_true (by rw [← HX.out.2]; exact hset)
                      rw [f2] at hq
                      have hb : insOk n k x = true := by simp [insOk, o5, hy0, hy1, hx0, hx1, hset]
                      have HB := Lib.hid hb
                      clear hb
                      go_wp2_with fail
                      go_roundw
                      case rel => exact ⟨k + 1, hkl, by go_num, (HBW.out.alloc HBW.out.size _).alloc (HBW.out.alloc HBW.out.size _).size _, by rw [allOk_take M k x HX.out.1, HA.out, HB.out]; rfl⟩
                      case measure => simp [intOf]; omega
                    · have f2 : decide ([p0, p1, p2, p3] = noneL) = false := decide_eq_false (by rw [← HX.out.2]; exact hset)
                      rw [f2] at hq
                      have hb := shaped_bad HX.out.1 HL.out (by simp [insOk, o5, hy0, hy1, hx0, hx1, hset])
                      have HB := Lib.hid hb
                      clear hb
                      go_wp2_with fail
                      go_ret
                      exact ⟨by rw [HB.out]; rfl, (HBW.out.alloc HBW.out.size _).alloc (HBW.out.alloc HBW.out.size _).size _⟩
                  · have kx : decide ((n : Int) ≤ x.x) = true := decide_eq_true (by omega)
                    have hb := shaped_bad HX.out.1 HL.out (by simp [insOk, o5, hy0, hy1, hx0, hx1])
                    have HB := Lib.hid hb
                    clear hb
                    go_wp2_with fail
                    go_ret
                    exact ⟨by rw [HB.out]; rfl, (HBW.out.alloc HBW.out.size _).alloc (HBW.out.alloc HBW.out.size _).size _⟩
                · have gx : decide (x.x < 0) = true := decide_eq_true (by omega)
                  have hb := shaped_bad HX.out.1 HL.out (by simp [insOk, o5, hy0, hy1, hx0])
                  have HB := Lib.hid hb
                  clear hb
                  go_wp2_with fail
                  go_ret
                  exact ⟨by rw [HB.out]; rfl, (HBW.out.alloc HBW.out.size _).alloc (HBW.out.alloc HBW.out.size _).size _⟩
              · have ky : decide ((n : Int) ≤ x.y) = true := decide_eq_true (by omega)
                have hb := shaped_bad HX.out.1 HL.out (by simp [insOk, o5, hy0, hy1])
                have HB := Lib.hid hb
                clear hb
                go_wp2_with fail
                go_ret
                exact ⟨by rw [HB.out]; rfl, (HBW.out.alloc HBW.out.size _).alloc (HBW.out.alloc HBW.out.size _).size _⟩
            · have gy : decide (x.y < 0) = true := decide_eq_true (by omega)
              have hb := shaped_bad HX.out.1 HL.out (by simp [insOk, o5, hy0])
              have HB := Lib.hid hb
              clear hb
              go_wp2_with fail
              go_ret
              exact ⟨by rw [HB.out]; rfl, (HBW.out.alloc HBW.out.size _).alloc (HBW.out.alloc HBW.out.size _).size _⟩
          by_cases o6 : x.op = 6
          · rw [o6] at d0
            by_cases hset : x.set = noneL
            · have f2 : decide ([p0, p1, p2, p3] = noneL) = true := decide_eq_true (by rw [← HX.out.2]; exact hset)
              rw [f2] at hq
              by_cases hxz : x.x = 0
              · skip
                by_cases hyz : x.y = 0
                · skip
                  have hb : insOk n k x = true := by simp [insOk, o6, hset, hxz, hyz]
                  have HB := Lib.hid hb
                  clear hb
                  go_wp2_with fail
                  go_roundw
                  case rel => exact ⟨k + 1, hkl, by go_num, (HBW.out.alloc HBW.out.size _).alloc (HBW.out.alloc HBW.out.size _).size _, by rw [allOk_take M k x HX.out.1, HA.out, HB.out]; rfl⟩
                  case measure => simp [intOf]; omega
                · skip
                  have hb := shaped_bad HX.out.1 HL.out (by simp [insOk, o6, hset, hxz, hyz])
                  have HB := Lib.hid hb
                  clear hb
                  go_wp2_with fail
                  go_ret
                  exact ⟨by rw [HB.out]; rfl, (HBW.out.alloc HBW.out.size _).alloc (HBW.out.alloc HBW.out.size _).size _⟩
              · skip
                have hb := shaped_bad HX.out.1 HL.out (by simp [insOk, o6, hset, hxz])
                have HB := Lib.hid hb
                clear hb
                go_wp2_with fail
                go_ret
                exact ⟨by rw [HB.out]; rfl, (HBW.out.alloc HBW.out.size _).alloc (HBW.out.alloc HBW.out.size _).size _⟩
            · have f2 : decide ([p0, p1, p2, p3] = noneL) = false := decide_eq_false (by rw [← HX.out.2]; exact hset)
              rw [f2] at hq
              have hb := shaped_bad HX.out.1 HL.out (by simp [insOk, o6, hset])
              have HB := Lib.hid hb
              clear hb
              go_wp2_with fail
              go_ret
              exact ⟨by rw [HB.out]; rfl, (HBW.out.alloc HBW.out.size _).alloc (HBW.out.alloc HBW.out.size _).size _⟩
          have hb := shaped_bad HX.out.1 HL.out (by simp [insOk, o1, o2, o3, o4, o5, o6])
          have HB := Lib.hid hb
          clear hb
          go_wp2_with fail
          go_ret
          exact ⟨by rw [HB.out]; rfl, (HBW.out.alloc HBW.out.size _).alloc (HBW.out.alloc HBW.out.size _).size _⟩
          -- END ARMS
        · have e0 : k = n := by omega
          have HE := Lib.hid e0
          clear e0
          have hkI : ¬ (k : Int) < (n : Int) := by omega
          go_wp2_with fail
          go_ret
          have hs : shapedM M = true := by
            have h := HA.out
            rw [HE.out, ← HL.out, List.take_length] at h
            have h1 := HS.out
            have h2 := HL.out
            unfold shapedM
            rw [decide_eq_true (by omega : 1 ≤ M.length), decide_eq_true (by omega : M.length ≤ 65540), h]; rfl
          exact ⟨by rw [hs]; rfl, HBW.out⟩
end Go.Proofs.YtfmcjmkdlldlhaaDoor
