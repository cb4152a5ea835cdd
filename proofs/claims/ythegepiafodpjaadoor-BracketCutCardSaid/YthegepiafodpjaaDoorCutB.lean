/-
  BracketCut: the walk of the law.
-/
import Derived.Test.YthegepiafodpjaaDoorBrD
import Derived.Test.YthegepiafodpjaaDoorWorks4
import Derived.Test.YthegepiafodpjaaDoorLong
namespace Go.Proofs.YthegepiafodpjaaDoor
open Go.RowKit

theorem isM_take (l : List Mk) (k : Nat) (h : IsM l) : IsM (l.take k) := by
  intro i
  rw [List.getElem?_take]
  split
  · exact h i
  · exact ⟨by decide, by decide⟩
theorem isM_drop (l : List Mk) (k : Nat) (h : IsM l) : IsM (l.drop k) := by
  intro i
  rw [List.getElem?_drop]
  exact h _
/-- A part of some marks. -/
theorem SM.part {w : World} {b o n c : Nat} {l : List Mk} (h : SM w (.slice (some ⟨b, o, none⟩) n c) l) (lo k c' : Nat) (hk : lo + k ≤ n) : SM w (.slice (some ⟨b, o + lo * 2, none⟩) k c') ((l.drop lo).take k) := by
  obtain ⟨hl, hn⟩ := h.len
  have hlen : ((l.drop lo).take k).length = k := by rw [List.length_take, List.length_drop]; omega
  refine ⟨isM_take _ _ (isM_drop _ _ h.1), some ⟨b, o + lo * 2, none⟩, c', by rw [hlen], by omega, ?_⟩
  by_cases h0 : k = 0
  · exact .inl (List.eq_nil_of_length_eq_zero (by omega))
  · refine .inr ⟨b, o + lo * 2, rfl, fun i hi => ?_⟩
    rw [hlen] at hi
    obtain ⟨bb, oo, e, hc⟩ := h.read (lo + i) (by omega)
    simp only [Option.some.injEq, Addr.mk.injEq, and_true] at e
    obtain ⟨rfl, rfl⟩ := e
    obtain ⟨h1, h2⟩ := hc (lo + i) (by omega)
    rw [List.getElem?_take_of_lt hi, List.getElem?_drop]
    rw [show o + (lo + i) * 2 = o + lo * 2 + i * 2 by omega] at h1 h2
    exact ⟨h1, h2⟩
theorem SM.addr {w : World} {a : Option Addr} {n c : Nat} {l : List Mk} (h : SM w (.slice a n c) l) (hn : 0 < n) : ∃ b o, a = some ⟨b, o, none⟩ := by
  obtain ⟨b, o, e, _⟩ := h.read 0 hn
  exact ⟨b, o, e⟩

theorem cells4 {w : World} {g : Nat} {u0 u1 u2 u3 : Int} {T : TypeId} (h : w.heap[g]? = some (.cells #[.int .u64 u0, .int .u64 u1, .int .u64 u2, .int .u64 u3] T (0, 0))) :
    w.cell? ⟨g, 0, none⟩ = some (.int .u64 u0) ∧ w.cell? ⟨g, 1, none⟩ = some (.int .u64 u1) ∧ w.cell? ⟨g, 2, none⟩ = some (.int .u64 u2) ∧ w.cell? ⟨g, 3, none⟩ = some (.int .u64 u3) := by
  refine ⟨?_, ?_, ?_, ?_⟩ <;> (rw [cell_of_row _ _ _ _ _ (0, 0) h]; rfl)
theorem eq_zero4 (w : World) : Sem.run Tryd.prog (Op.equalIn 10000 28 (.agg #[.int .u64 0, .int .u64 0, .int .u64 0, .int .u64 0]) (.agg #[.int .u64 0, .int .u64 0, .int .u64 0, .int .u64 0])) w = .ok true w := by kernel_rfl
theorem eq_same4 (w : World) (u0 u1 u2 u3 : Nat) : Sem.run Tryd.prog (Op.equalIn 10000 28 (.agg #[.int .u64 (u0 : Int), .int .u64 (u1 : Int), .int .u64 (u2 : Int), .int .u64 (u3 : Int)]) (.agg #[.int .u64 (u0 : Int), .int .u64 (u1 : Int), .int .u64 (u2 : Int), .int .u64 (u3 : Int)])) w = .ok true w :=
  (run_equalIn_rowC w 9998 [u0, u1, u2, u3] [u0, u1, u2, u3] rfl rfl).trans (by rw [decide_eq_true rfl])

set_option maxHeartbeats 4000000 in
set_option maxRecDepth 100000 in
theorem cutB_any (w : World) (hw : W4 w) (a1 : Option Addr) (n1 c1 : Nat) (A : List Mk) (hA : SM w (.slice a1 n1 c1) A) (hc1 : n1 ≤ c1) (at' ct : Int) (hat : -9223372036854775808 ≤ at' ∧ at' ≤ 9223372036854775807) (hct : -9223372036854775808 ≤ ct ∧ ct ≤ 9223372036854775807)
    (a2 : Option Addr) (n2 c2 : Nat) (B : List Mk) (hB : SM w (.slice a2 n2 c2) B) (hN2 : a2 = none → c2 = 0) :
    Calls Tryd.prog 7 #[.slice a1 n1 c1, .int .i64 at', .int .i64 ct, .slice a2 n2 c2] w fun e w' => e = .returned (.bool true) ∧ Below w.heap.size w w' := by
  obtain ⟨hAl, hAn⟩ := hA.len
  obtain ⟨hBl, hBn⟩ := hB.len
  have HW := Lib.hid hw
  have HA := Lib.hid hA
  have HB := Lib.hid hB
  have HAL := Lib.hid hAl
  have HBL := Lib.hid hBl
  have HN2 := Lib.hid hN2
  clear hw hA hB hAl hBl hN2
  go_enter Tryd.func7, Tryd.ntmps7
  go_wp2_with fail
  refine (works4_any w HW.out).mono ?_
  rintro e w1 ⟨rfl, b1⟩
  have B1 := Lib.hid b1
  clear b1
  go_wp2_with fail
  have hcast : ((n1 : Int) + (n2 : Int)) = ((n1 + n2 : Nat) : Int) := by omega
  rw [hcast]
  refine (long_any w1 (n1 + n2) (by omega)).mono ?_
  rintro e w2 ⟨rfl, rfl⟩
  clear hcast
  by_cases hL : 2147483647 < n1 + n2
  · rw [decide_eq_true hL]
    go_wp2_with fail
    go_ret
    exact ⟨rfl, B1.out⟩
  · rw [decide_eq_false hL]
    go_wp2_with fail
    refine (parse_any w1 (HW.out.br.below B1.out) a1 n1 c1 at' A (HA.out.below B1.out)).mono ?_
    rintro e w3 ⟨he, b3⟩
    have B3 := Lib.hid (B1.out.trans (b3.mono B1.out.size))
    clear b3 B1
    rcases parse_cases A at' with hP | hP | hP
    · rw [hP] at he
      have he : e = .returned (.tuple #[.agg #[.int .u64 0, .int .u64 0, .int .u64 0, .int .u64 0], .int .i64 0, .int .i64 1]) := he
      subst he
      go_upto_region 5 with fail
      have n4 := heap_alloc_new w3 (.cells #[.int .u64 0, .int .u64 0, .int .u64 0, .int .u64 0] 28)
      have B4 := Lib.hid (B3.out.trans ((box1 w3 (.cells #[.int .u64 0, .int .u64 0, .int .u64 0, .int .u64 0] 28)).mono B3.out.size))
      generalize w3.heap.size = g at n4 ⊢
      generalize w3.alloc (.cells #[.int .u64 0, .int .u64 0, .int .u64 0, .int .u64 0] 28) = w4 at n4 B4 ⊢
      obtain ⟨e0, e1, e2, e3⟩ := cells4 n4
      have hE := fun w => eq_zero4 w
      clear hP he n4 B3
      go_wp2_with fail
      go_ret
      exact ⟨rfl, B4.out⟩
    · obtain ⟨op, er, p, rfl, hop, hp, her, hP⟩ := hP
      rw [hP] at he
      have he : e = .returned (.tuple #[.agg #[.int .u64 0, .int .u64 0, .int .u64 0, .int .u64 0], .int .i64 (p : Int), .int .i64 (er : Int)]) := he
      have hg : decide ((op : Int) ≤ (p : Int)) = true := by simp; omega
      have hh : decide ((p : Int) < (n1 : Int)) = true := by have := HAL.out; simp; omega
      have h1 : ((er : Int) == 1) = false := by rcases her with h | h | h <;> rw [h] <;> rfl
      have h0 : ((er : Int) != 0) = true := by rcases her with h | h | h <;> rw [h] <;> rfl
      have h2 : ((er : Int) != 1) = true := by rcases her with h | h | h <;> rw [h] <;> rfl
      subst he
      go_upto_region 5 with fail
      have n4 := heap_alloc_new w3 (.cells #[.int .u64 0, .int .u64 0, .int .u64 0, .int .u64 0] 28)
      have B4 := Lib.hid (B3.out.trans ((box1 w3 (.cells #[.int .u64 0, .int .u64 0, .int .u64 0, .int .u64 0] 28)).mono B3.out.size))
      generalize w3.heap.size = g at n4 ⊢
      generalize w3.alloc (.cells #[.int .u64 0, .int .u64 0, .int .u64 0, .int .u64 0] 28) = w4 at n4 B4 ⊢
      obtain ⟨e0, e1, e2, e3⟩ := cells4 n4
      have hE := fun w => eq_zero4 w
      have HH : Hid (decide (p < n1) = true) := Lib.hid (by have := HAL.out; simp; omega)
      rw [HAL.out] at hp
      clear hP n4 B3 her hh hg
      go_wp2_with fail
      go_ret
      first | exact ⟨rfl, B4.out⟩ | exact ⟨congrArg (fun b => Ending.returned (.bool b)) HH.out, B4.out⟩
    · obtain ⟨op, en, c, rfl, hK⟩ := hP
      obtain ⟨u0, u1, u2, u3, rfl⟩ := isC_words c hK.isc
      rw [hK.eq] at he
      have he : e = .returned (.tuple #[.agg #[.int .u64 (u0 : Int), .int .u64 (u1 : Int), .int .u64 (u2 : Int), .int .u64 (u3 : Int)], .int .i64 (en : Int), .int .i64 0]) := he
      subst he
      have HK := Lib.hid hK
      have hlo := hK.lo
      have hhi := hK.hi
      rw [HAL.out] at hhi
      clear hK
      obtain ⟨ba, oa, rfl⟩ := HA.out.addr (by omega)
      go_upto_region 5 with fail
      have n4 := heap_alloc_new w3 (.cells #[.int .u64 (u0 : Int), .int .u64 (u1 : Int), .int .u64 (u2 : Int), .int .u64 (u3 : Int)] 28)
      have B4 := Lib.hid (B3.out.trans ((box1 w3 (.cells #[.int .u64 (u0 : Int), .int .u64 (u1 : Int), .int .u64 (u2 : Int), .int .u64 (u3 : Int)] 28)).mono B3.out.size))
      generalize w3.heap.size = g at n4 ⊢
      generalize w3.alloc (.cells #[.int .u64 (u0 : Int), .int .u64 (u1 : Int), .int .u64 (u2 : Int), .int .u64 (u3 : Int)] 28) = w4 at n4 B4 ⊢
      have N4 := Lib.hid n4
      clear n4 B3
      obtain ⟨_, _, hae, hac⟩ := (HA.out.below B4.out).read (en - 1) (by omega)
      simp only [Option.some.injEq, Addr.mk.injEq, and_true] at hae
      obtain ⟨rfl, rfl⟩ := hae
      obtain ⟨r0, r1⟩ := hac (en - 1) (by omega)
      rw [sgn_get HK.out.fin] at r0 r1
      dsimp only at r0 r1
      obtain ⟨m, rfl⟩ : ∃ m, en = m + 1 := ⟨en - 1, by omega⟩
      rw [Nat.add_sub_cancel] at r0 r1
      have f0 : decide ((op : Int) < 0) = false := decide_eq_false (by omega)
      have f1 : decide (((m + 1 : Nat) : Int) < (op : Int) + 3) = false := decide_eq_false (by omega)
      have f2 : decide ((n1 : Int) < ((m + 1 : Nat) : Int)) = false := decide_eq_false (by omega)
      have f3 : ((m + 1 : Nat) : Int) - 1 = (m : Int) := by simp
      clear hac
      go_upto_region 9 with fail
      clear f0 f1 f2 f3 r0 r1 he
      go_wp2_with fail
      have hX := SM.part (HA.out.below B4.out) op (m + 1 - op) (c1 - op) (by omega)
      have hal := HK.out.alone B
      obtain ⟨y, hy⟩ : ∃ y, m + 1 - op = y := ⟨_, rfl⟩
      rw [hy] at hX hal ⊢
      obtain ⟨X, hXX⟩ : ∃ X, (A.drop op).take y = X := ⟨_, rfl⟩
      rw [hXX] at hX hal
      clear hXX
      refine (copyMn_any w4 _ y (c1 - op) X (fun h => by cases h) hX).mono ?_
      rintro e w5 ⟨v5, rfl, o5, b5⟩
      have hXl := hX.len.1
      have O5 := Lib.hid o5
      have B5 := Lib.hid b5
      have hs5 := b5.size
      have HAB := Lib.hid (isM_append _ _ hX.1 HB.out.1)
      have HS5 := Lib.hid (HB.out.below (B4.out.trans (b5.mono B4.out.size)))
      have HAl := Lib.hid hal
      have hBL := HBL.out
      clear o5 b5 hX hal
      go_upto_region 11 with (at_builtin; refine append_sm rfl (.tmp 94) (.tmp 95) rfl w4.heap.size _ X B a2 n2 c2 rfl O5.out rfl HN2.out HS5.out (by omega) hs5 ?_; intro v6 w6 o6 hA; have hb6 := hA.bel _ _ B5.out (Nat.le_refl _); obtain ⟨Y, hY⟩ : ∃ Y, X ++ B = Y := ⟨_, rfl⟩; rw [hY] at o6 HAB HAl; have hYl : Y.length = y + n2 := by { rw [← hY, List.length_append, hXl, hBL] }; obtain ⟨a6, c6, rfl, -⟩ := o6.shape; have hs6 := o6.sm HAB.out (by omega); obtain ⟨yy, hyy⟩ : ∃ yy, Y.length = yy := ⟨_, rfl⟩; rw [hyy] at hs6 ⊢; have HS6 := Lib.hid hs6; have HB6 := Lib.hid hb6; clear o6 hA hb6 hY hyy hs6 O5 B5 HS5 hs5)
      go_wp2_with fail
      refine (parse_any w6 (HW.out.br.below (B4.out.trans (HB6.out.mono B4.out.size))) a6 yy c6 0 Y HS6.out).mono ?_
      rintro e w7 ⟨he, b7⟩
      rw [HAl.out] at he
      have he : e = .returned (.tuple #[.agg #[.int .u64 (u0 : Int), .int .u64 (u1 : Int), .int .u64 (u2 : Int), .int .u64 (u3 : Int)], .int .i64 (y : Int), .int .i64 0]) := he
      subst he
      have B7 := Lib.hid (HB6.out.trans (b7.mono HB6.out.size))
      clear b7 HB6 HS6 HAl HAB hYl hXl
      go_upto_region 12 with fail
      have n8 := heap_alloc_new w7 (.cells #[.int .u64 (u0 : Int), .int .u64 (u1 : Int), .int .u64 (u2 : Int), .int .u64 (u3 : Int)] 28)
      have b8 := B7.out.trans ((box1 w7 (.cells #[.int .u64 (u0 : Int), .int .u64 (u1 : Int), .int .u64 (u2 : Int), .int .u64 (u3 : Int)] 28)).mono B7.out.size)
      generalize w7.heap.size = g8 at n8 ⊢
      generalize w7.alloc (.cells #[.int .u64 (u0 : Int), .int .u64 (u1 : Int), .int .u64 (u2 : Int), .int .u64 (u3 : Int)] 28) = w8 at n8 b8 ⊢
      obtain ⟨e0, e1, e2, e3⟩ := cells4 n8
      obtain ⟨d0, d1, d2, d3⟩ := cells4 (heap_b b8 N4.out)
      have B8 := Lib.hid (B4.out.trans (b8.mono B4.out.size))
      have hE := fun w => eq_same4 w u0 u1 u2 u3
      have hyn : ((y : Int) != (m : Int) + 1 - (op : Int)) = false := by rw [bne_eq_false_iff_eq]; omega
      clear n8 b8 B7
      go_upto_region 14 with fail
      clear hE hyn e0 e1 e2 e3 d0 d1 d2 d3 N4 B4
      by_cases hc1' : ct ≤ (op : Int)
      · have hd : decide (ct ≤ (op : Int)) = true := decide_eq_true hc1'
        go_wp2_with fail
        go_ret
        exact ⟨rfl, B8.out⟩
      · have hd : decide (ct ≤ (op : Int)) = false := decide_eq_false hc1'
        by_cases hc2' : (m : Int) + 1 ≤ ct
        · have hd2 : decide ((m : Int) + 1 ≤ ct) = true := decide_eq_true hc2'
          go_wp2_with fail
          go_ret
          exact ⟨rfl, B8.out⟩
        · have hd2 : decide ((m : Int) + 1 ≤ ct) = false := decide_eq_false hc2'
          obtain ⟨k, rfl⟩ : ∃ k : Nat, ct = (k : Int) := ⟨ct.toNat, by omega⟩
          have hk1 : op < k := by omega
          have hk2 : k < m + 1 := by omega
          have hcut := HK.out.cut k hk1 hk2
          have hsA := HA.out.below B8.out
          have hX2 : SM w8 (.slice (some ⟨ba, oa, none⟩) k c1) (A.take k) := by simpa using SM.part hsA 0 k c1 (by omega)
          unfold CutIs at hcut
          generalize A.take k = Z at hcut hX2
          have HX2 := Lib.hid hX2
          have HCT := Lib.hid hcut
          clear hcut hX2
          go_upto_region 16 with fail
          clear hd hd2 hc1' hc2'
          go_wp2_with fail
          refine (copyMn_any w8 _ k c1 Z (fun h => by cases h) HX2.out).mono ?_
          rintro e w9 ⟨v9, rfl, o9, b9⟩
          have hZl := HX2.out.len.1
          have s9 := o9.sm HX2.out.1 (by omega)
          obtain ⟨a9, c9, rfl, -⟩ := o9.shape
          rw [hZl] at s9 ⊢
          have S9 := Lib.hid s9
          have B9 := Lib.hid (B8.out.trans (b9.mono B8.out.size))
          have HSA9 := Lib.hid (hsA.below b9)
          clear s9 o9 b9 hsA HX2 hZl
          go_wp2_with fail
          refine (parse_any w9 (HW.out.br.below B9.out) a9 k c9 (op : Int) Z S9.out).mono ?_
          rintro e w10 ⟨he, b10⟩
          have B10 := Lib.hid (B9.out.trans (b10.mono B9.out.size))
          have HSA := Lib.hid (HSA9.out.below b10)
          clear b10 S9 HSA9
          rcases HCT.out with hP | ⟨p, hP, g1, g2, g3, g4⟩
          · rw [hP] at he
            have he : e = .returned (.tuple #[.agg #[.int .u64 0, .int .u64 0, .int .u64 0, .int .u64 0], .int .i64 (op : Int), .int .i64 32]) := he
            subst he
            go_upto_region 17 with fail
            have n9 := heap_alloc_new w10 (.cells #[.int .u64 0, .int .u64 0, .int .u64 0, .int .u64 0] 28)
            have bz := box1 w10 (.cells #[.int .u64 0, .int .u64 0, .int .u64 0, .int .u64 0] 28)
            have B11 := Lib.hid (B10.out.trans (bz.mono B10.out.size))
            have HSB := Lib.hid (HSA.out.below bz)
            generalize w10.heap.size = g11 at n9 ⊢
            generalize w10.alloc (.cells #[.int .u64 0, .int .u64 0, .int .u64 0, .int .u64 0] 28) = w11 at n9 B11 HSB ⊢
            obtain ⟨z0, z1, z2, z3⟩ := cells4 n9
            have hE := fun w => eq_zero4 w
            clear n9 bz
            go_upto_region 19 with fail
            clear hE z0 z1 z2 z3
            by_cases h2 : op + 2 < k
            · have hd : decide ((op : Int) + 2 < (k : Int)) = true := decide_eq_true (by omega)
              obtain ⟨k1, hk1e⟩ : ∃ k1, k = k1 + 1 := ⟨k - 1, by omega⟩
              obtain ⟨k2, hk2e⟩ : ∃ k2, k = k2 + 2 := ⟨k - 2, by omega⟩
              have f1 : (k : Int) - 1 = (k1 : Int) := by omega
              have f2 : (k : Int) - 2 = (k2 : Int) := by omega
              have l1 : k1 < n1 := by omega
              have l2 : k2 < n1 := by omega
              obtain ⟨_, _, hae, hac⟩ := HSB.out.read k1 (by omega)
              simp only [Option.some.injEq, Addr.mk.injEq, and_true] at hae
              obtain ⟨rfl, rfl⟩ := hae
              obtain ⟨r0, r1⟩ := hac k1 (by omega)
              obtain ⟨s0, s1⟩ := hac k2 (by omega)
              have HK12 := Lib.hid (And.intro hk1e hk2e)
              clear hac hk1e hk2e
              generalize A[k1]?.getD (0, false) = mx at r0 r1
              generalize A[k2]?.getD (0, false) = my at s0 s1
              obtain ⟨x, px⟩ := mx
              obtain ⟨y2, py⟩ := my
              dsimp only at r0 r1 s0 s1
              by_cases hx : x = 91
              · subst hx
                cases px with
                | true =>
                  go_wp2_with fail
                  go_ret
                  exact ⟨rfl, B11.out⟩
                | false =>
                  by_cases hy2 : y2 = 45
                  · subst hy2
                    cases py with
                    | true =>
                      go_wp2_with fail
                      go_ret
                      exact ⟨rfl, B11.out⟩
                    | false =>
                      go_wp2_with fail
                      go_ret
                      exact ⟨rfl, B11.out⟩
                  · have hyb : (y2 == 45) = false := beq_eq_false_iff_ne.2 hy2
                    clear hy2
                    go_wp2_with fail
                    go_ret
                    exact ⟨rfl, B11.out⟩
              · have hxb : (x == 91) = false := beq_eq_false_iff_ne.2 hx
                clear hx
                go_wp2_with fail
                go_ret
                exact ⟨rfl, B11.out⟩
            · have hd : decide ((op : Int) + 2 < (k : Int)) = false := decide_eq_false (by omega)
              go_wp2_with fail
              go_ret
              exact ⟨rfl, B11.out⟩
          · rw [hP] at he
            have he : e = .returned (.tuple #[.agg #[.int .u64 0, .int .u64 0, .int .u64 0, .int .u64 0], .int .i64 (p : Int), .int .i64 30]) := he
            subst he
            go_upto_region 17 with fail
            have n9 := heap_alloc_new w10 (.cells #[.int .u64 0, .int .u64 0, .int .u64 0, .int .u64 0] 28)
            have bz := box1 w10 (.cells #[.int .u64 0, .int .u64 0, .int .u64 0, .int .u64 0] 28)
            have B11 := Lib.hid (B10.out.trans (bz.mono B10.out.size))
            have HSB := Lib.hid (HSA.out.below bz)
            generalize w10.heap.size = g11 at n9 ⊢
            generalize w10.alloc (.cells #[.int .u64 0, .int .u64 0, .int .u64 0, .int .u64 0] 28) = w11 at n9 B11 HSB ⊢
            obtain ⟨z0, z1, z2, z3⟩ := cells4 n9
            have hE := fun w => eq_zero4 w
            clear n9 bz
            go_upto_region 19 with fail
            clear hE z0 z1 z2 z3
            have hd : decide ((op : Int) + 2 < (k : Int)) = true := decide_eq_true (by omega)
            obtain ⟨k1, hk1e⟩ : ∃ k1, k = k1 + 1 := ⟨k - 1, by omega⟩
            obtain ⟨k2, hk2e⟩ : ∃ k2, k = k2 + 2 := ⟨k - 2, by omega⟩
            have f1 : (k : Int) - 1 = (k1 : Int) := by omega
            have f2 : (k : Int) - 2 = (k2 : Int) := by omega
            have l1 : k1 < n1 := by omega
            have l2 : k2 < n1 := by omega
            obtain ⟨_, _, hae, hac⟩ := HSB.out.read k1 (by omega)
            simp only [Option.some.injEq, Addr.mk.injEq, and_true] at hae
            obtain ⟨rfl, rfl⟩ := hae
            obtain ⟨r0, r1⟩ := hac k1 (by omega)
            obtain ⟨s0, s1⟩ := hac k2 (by omega)
            have HK12 := Lib.hid (And.intro hk1e hk2e)
            clear hac hk1e hk2e
            rw [show k - 1 = k1 by have := HK12.out; omega] at g3
            rw [show k - 2 = k2 by have := HK12.out; omega] at g4
            rw [sgn_get g3] at r0 r1
            rw [sgn_get g4] at s0 s1
            dsimp only at r0 r1 s0 s1
            have hp1 : decide ((op : Int) < (p : Int)) = true := decide_eq_true (by omega)
            have hp3 : p < k2 := by have := HK12.out; omega
            have hp2 : decide ((p : Int) < (k2 : Int)) = true := decide_eq_true (by omega)
            have hpp : decide (p < k2) = true := decide_eq_true hp3
            go_wp2_with fail
            go_ret
            first | exact ⟨rfl, B11.out⟩ | exact ⟨by simp [hp3], B11.out⟩
end Go.Proofs.YthegepiafodpjaaDoor
