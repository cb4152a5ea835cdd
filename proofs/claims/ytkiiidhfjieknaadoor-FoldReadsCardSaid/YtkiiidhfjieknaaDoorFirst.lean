/-
  fold.first: the byte of the piece that stands first.
-/
import Derived.Test.YtkiiidhfjieknaaDoorKind
namespace Go.Proofs.YtkiiidhfjieknaaDoor
open Go.RowKit

theorem notLtr (d : Int) (h : ∀ j : Nat, j < 8 → letC j ≠ d) : isLtr d = false := by
  have h0 := h 0 (by omega); have h1 := h 1 (by omega); have h2 := h 2 (by omega); have h3 := h 3 (by omega)
  have h4 := h 4 (by omega); have h5 := h 5 (by omega); have h6 := h 6 (by omega); have h7 := h 7 (by omega)
  simp only [letC] at h0 h1 h2 h3 h4 h5 h6 h7
  unfold isLtr
  exact decide_eq_false (by omega)
/-- The number of the first j digits. -/
def octA (l : List Int) : Nat → Int
  | 0 => 0
  | j + 1 => octA l j * 8 + (l[j]?.getD 0 - 48)
def octOk (l : List Int) (j : Nat) : Prop := ∀ i : Nat, i < j → 48 ≤ l[i]?.getD 0 ∧ l[i]?.getD 0 ≤ 55
theorem octA_bd (l : List Int) (j : Nat) (hj : j ≤ 3) (h : octOk l j) : 0 ≤ octA l j ∧ octA l j ≤ 511 := by
  match j, hj with
  | 0, _ => simp [octA]
  | 1, _ => have := h 0 (by omega); simp only [octA]; omega
  | 2, _ => have := h 0 (by omega); have := h 1 (by omega); simp only [octA]; omega
  | 3, _ => have := h 0 (by omega); have := h 1 (by omega); have := h 2 (by omega); simp only [octA]; omega
  | n + 4, h4 => omega
theorem first_ltr (c d : Int) (u : List Int) (hc : c = 92) (k : Nat) (hk : k < 8) (h : letC k = d) : firstL (c :: d :: u) = (letB k, 2) := by
  obtain ⟨-, -, -, -, -, -, h1, h2⟩ := letB_ok k hk
  rw [h] at h1 h2
  simp [firstL, hc, h1, h2]
theorem first_short (c d : Int) (u : List Int) (hc : c = 92) (hd : isLtr d = false) (hu : u.length < 2) : firstL (c :: d :: u) = (0, 0) := by
  match u, hu with
  | [], _ => simp [firstL, hc, hd]
  | [e], _ => simp [firstL, hc, hd]
theorem first_bad (c d e f : Int) (u : List Int) (hc : c = 92) (hd : isLtr d = false) (j : Nat) (hj : j < 3) (h : ¬ (48 ≤ ([d, e, f] : List Int)[j]?.getD 0 ∧ ([d, e, f] : List Int)[j]?.getD 0 ≤ 55)) : firstL (c :: d :: e :: f :: u) = (0, 0) := by
  have hx : (isOct d && isOct e && isOct f) = false := by
    unfold isOct
    match j, hj with
    | 0, _ =>
      have h : ¬ (48 ≤ d ∧ d ≤ 55) := h
      rw [decide_eq_false h]; rfl
    | 1, _ =>
      have h : ¬ (48 ≤ e ∧ e ≤ 55) := h
      rw [decide_eq_false h, Bool.and_false]; rfl
    | 2, _ =>
      have h : ¬ (48 ≤ f ∧ f ≤ 55) := h
      rw [decide_eq_false h, Bool.and_false]
  simp [firstL, hc, hd, hx]
theorem first_oct (c d e f : Int) (u : List Int) (hc : c = 92) (hd : isLtr d = false) (h : octOk [d, e, f] 3) : firstL (c :: d :: e :: f :: u) = (octA [d, e, f] 3 % 256, 4) := by
  have h0 : 48 ≤ d ∧ d ≤ 55 := h 0 (by omega)
  have h1 : 48 ≤ e ∧ e ≤ 55 := h 1 (by omega)
  have h2 : 48 ≤ f ∧ f ≤ 55 := h 2 (by omega)
  have hx : (isOct d && isOct e && isOct f) = true := by unfold isOct; rw [decide_eq_true h0, decide_eq_true h1, decide_eq_true h2]; rfl
  simp only [firstL, hc, hd, hx, octA, ne_eq, not_true_eq_false, if_false, Bool.false_eq_true, if_true]
  refine Prod.ext ?_ rfl
  show (((d - 48) * 8 + (e - 48)) * 8 + (f - 48)) % 256 = (((0 * 8 + (d - 48)) * 8 + (e - 48)) * 8 + (f - 48)) % 256
  omega

def FirstPost (w : World) (p : List Int) (e : Ending) (w' : World) : Prop := e = .returned (.tuple #[.int .u8 (firstL p).1, .int .i64 ((firstL p).2 : Nat)]) ∧ Below w.heap.size w w'
theorem first_ret {w w' : World} {p : List Int} {x : Int} {n : Nat} (h : firstL p = (x, n)) (hb : Below w.heap.size w w') : FirstPost w p (.returned (.tuple #[.int .u8 x, .int .i64 (n : Nat)])) w' := by
  refine ⟨?_, hb⟩; rw [h]

set_option maxHeartbeats 4000000 in
theorem first_any (w : World) (b o n cap : Nat) (p : List Int) (hb : SB w (.slice (some ⟨b, o, none⟩) n cap) p) (hn : 0 < n) (hcap : n ≤ cap) (hL : LetW w) : Calls Tryd.prog 53 #[.slice (some ⟨b, o, none⟩) n cap] w (FirstPost w p) := by
  obtain ⟨hln, hl47⟩ := hb.len
  obtain ⟨hB, a, c, he, -, hc⟩ := hb
  have hc := hc.resolve_left (by intro e; rw [e] at hln; simp at hln; omega)
  simp only [Value.slice.injEq] at he
  obtain ⟨rfl, -, rfl⟩ := he
  obtain ⟨b', o', he, hc⟩ := hc
  simp only [Option.some.injEq, Addr.mk.injEq, and_true] at he
  obtain ⟨rfl, rfl⟩ := he
  have c0 := hL.cell 0 92 (by omega) rfl
  have c1 := hL.cell 1 92 (by omega) rfl
  have c2 := hL.cell 2 7 (by omega) rfl
  have c3 := hL.cell 3 97 (by omega) rfl
  have c4 := hL.cell 4 8 (by omega) rfl
  have c5 := hL.cell 5 98 (by omega) rfl
  have c6 := hL.cell 6 9 (by omega) rfl
  have c7 := hL.cell 7 116 (by omega) rfl
  have c8 := hL.cell 8 10 (by omega) rfl
  have c9 := hL.cell 9 110 (by omega) rfl
  have c10 := hL.cell 10 11 (by omega) rfl
  have c11 := hL.cell 11 118 (by omega) rfl
  have c12 := hL.cell 12 12 (by omega) rfl
  have c13 := hL.cell 13 102 (by omega) rfl
  have c14 := hL.cell 14 13 (by omega) rfl
  have c15 := hL.cell 15 114 (by omega) rfl
  clear hL
  match p, hln, hB, hc with
  | [], hln, _, _ => simp at hln; omega
  | c :: t, hln, hB, hc =>
  have x0 : w.cell? ⟨b, o, none⟩ = some (.int .u8 c) := hc 0 (by simp)
  have hB0 : 0 ≤ c ∧ c ≤ 255 := hB 0
  by_cases h92 : c = 92
  · subst h92
    match t, hln, hB, hc with
    | [], hln, _, _ =>
      simp only [List.length_cons, List.length_nil] at hln
      have hn2 : (n : Int) < 2 := by omega
      have hn3 : n < 2 := by omega
      clear hc hB hB0 c0 c1 c2 c3 c4 c5 c6 c7 c8 c9 c10 c11 c12 c13 c14 c15
      go_enter Tryd.func53, Tryd.ntmps53
      go_wp2_with fail
      go_ret2
      exact ⟨rfl, Below.refl _ _⟩
    | d :: u, hln, hB, hc =>
      simp only [List.length_cons] at hln
      have x1 : w.cell? ⟨b, o + 1, none⟩ = some (.int .u8 d) := hc 1 (by simp)
      have hBd : 0 ≤ d ∧ d ≤ 255 := hB 1
      have hn2 : (2 : Int) ≤ (n : Int) := by omega
      have hn3 : 2 ≤ n := by omega
      have HC := Lib.hid hc
      have HBB := Lib.hid hB
      have HX1 := Lib.hid x1
      have HLN := Lib.hid hln
      clear hc hB hB0 hln x1
      go_enter Tryd.func53, Tryd.ntmps53
      go_wp2_with fail
      go_loopw [20] (fun i wr => ∃ k : Nat, k ≤ 8 ∧ i = .int .i64 k ∧ (∀ j : Nat, j < k → letC j ≠ d) ∧ Below w.heap.size w wr) (fun i _ => 8 - (intOf i).toNat)
      case atStart => exact ⟨0, by omega, rfl, fun j hj => by omega, Below.refl _ _⟩
      case round =>
        clear c0 c1 c2 c3 c4 c5 c6 c7 c8 c9 c10 c11 c12 c13 c14 c15 x0
        obtain ⟨k, hk, rfl, hnn, rb⟩ := hrel
        have HN := Lib.hid hnn
        have hbs := rb.size
        clear hnn
        by_cases hlt : k < 8
        · have hix := fun W => index_let W k hlt
          have HF := Lib.hid (fun h => first_ltr 92 d u rfl k hlt h)
          have HB := Lib.hid (letB_ok k hlt)
          generalize hy : letB k = y at hix HB HF
          generalize hz : letC k = z at hix HB HF
          have HZ := Lib.hid hz
          clear hy hz
          obtain ⟨y0, y1, z0, z1, -⟩ := HB.out
          have hblt : b < w.heap.size := World.block_lt_of_cell? w _ HX1.out
          have x1 : (wr.alloc (.cells #[.int .u8 y, .int .u8 z] 119)).cell? ⟨b, o + 1, none⟩ = some (.int .u8 d) := by
            rw [(rb.alloc hbs _).cell (p := ⟨b, o + 1, none⟩) hblt]; exact HX1.out
          by_cases hzd : z = d
          · have he2 : (z == d) = true := by simp [hzd]
            have HE := Lib.hid hzd
            clear hzd hblt
            go_wp2_with fail
            go_quiet (fail)
            go_wp2_with fail
            go_ret2
            exact first_ret (HF.out HE.out) (below_drewN (rb.alloc hbs _) _)
          · have he2 : (z == d) = false := by simp [hzd]
            have HE := Lib.hid hzd
            clear hzd hblt
            go_wp2_with fail
            go_quiet (fail)
            go_wp2_with fail
            go_roundw
            case rel => exact ⟨k + 1, by omega, by go_num, fun j hj => by
              by_cases e : j = k
              · subst e; rw [HZ.out]; exact HE.out
              · exact HN.out j (by omega), below_drewN (rb.alloc hbs _) _⟩
            case measure => simp [intOf]; omega
        · obtain rfl : k = 8 := by omega
          have HNL := Lib.hid (notLtr d HN.out)
          clear hlt
          by_cases h4 : n < 4
          · have h4i : (n : Int) < 4 := by omega
            have HF := Lib.hid (first_short 92 d u rfl HNL.out (by have := HLN.out; omega))
            go_wp2_with fail
            go_ret2
            exact first_ret HF.out rb
          · have h4i : (4 : Int) ≤ (n : Int) := by omega
            have h4n : 4 ≤ n := by omega
            obtain ⟨e, f, u', rfl⟩ : ∃ e f u', u = e :: f :: u' := by
              match u, HLN.out with
              | [], h => simp at h; omega
              | [e], h => simp at h; omega
              | e :: f :: u', _ => exact ⟨e, f, u', rfl⟩
            have hcc : 4 ≤ cap := by omega
            have HCC := Lib.hid (show ∀ j : Nat, j < 3 → wr.cell? ⟨b, o + 1 + j, none⟩ = some (.int .u8 (([d, e, f] : List Int)[j]?.getD 0)) ∧ 0 ≤ ([d, e, f] : List Int)[j]?.getD 0 ∧ ([d, e, f] : List Int)[j]?.getD 0 ≤ 255 from fun j hj => by
              have hblt : b < w.heap.size := World.block_lt_of_cell? w _ HX1.out
              have hx := HC.out (j + 1) (by simp; omega)
              have hb := HBB.out (j + 1)
              have e1 : (92 :: d :: e :: f :: u' : List Int)[j + 1]?.getD 0 = ([d, e, f] : List Int)[j]?.getD 0 := by
                match j, hj with
                | 0, _ => rfl
                | 1, _ => rfl
                | 2, _ => rfl
              rw [e1] at hx hb
              refine ⟨?_, hb⟩
              rw [show o + 1 + j = o + (j + 1) by omega, rb.cell (p := ⟨b, o + (j + 1), none⟩) hblt]
              exact hx)
            have HFB := Lib.hid (fun j hj h => first_bad 92 d e f u' rfl HNL.out j hj h)
            have HFO := Lib.hid (fun h => first_oct 92 d e f u' rfl HNL.out h)
            generalize hdg : ([d, e, f] : List Int) = dg at HCC HFB HFO
            clear HC HBB HX1 HN hdg
            go_wp2_with fail
            go_loop [6, 38] (fun v6 v38 => ∃ j : Nat, j ≤ 3 ∧ v38 = .int .i64 j ∧ v6 = .int .i64 (octA dg j) ∧ octOk dg j) (fun _ i => 3 - (intOf i).toNat)
            case atStart => exact ⟨0, by omega, rfl, rfl, fun i hi => by omega⟩
            case round =>
              obtain ⟨j, hj, rfl, rfl, hok⟩ := hrel
              obtain ⟨a0, a1⟩ := octA_bd dg j hj hok
              have HOK := Lib.hid hok
              clear hok
              by_cases hj3 : j < 3
              · obtain ⟨xj, xj0, xj1⟩ := HCC.out j hj3
                have hst : octA dg (j + 1) = octA dg j * 8 + (dg[j]?.getD 0 - 48) := rfl
                have HB3 := Lib.hid (fun h => HFB.out j hj3 h)
                have HO3 := Lib.hid (fun (h : 48 ≤ dg[j]?.getD 0 ∧ dg[j]?.getD 0 ≤ 55) => (show octOk dg (j + 1) from fun i hi => by
                  by_cases e : i = j
                  · subst e; exact h
                  · exact HOK.out i (by omega)))
                generalize dg[j]?.getD 0 = x at xj xj0 xj1 hst HB3 HO3
                generalize octA dg j = acc at a0 a1 hst
                have HST := Lib.hid hst
                clear hst
                by_cases hx1 : x < 48
                · go_wp2_with fail
                  go_ret2
                  exact first_ret (HB3.out (by omega)) rb
                · by_cases hx2 : 55 < x
                  · go_wp2_with fail
                    go_ret2
                    exact first_ret (HB3.out (by omega)) rb
                  · go_wp2_with fail
                    go_round
                    case rel => exact ⟨j + 1, by omega, by go_num, by rw [HST.out], HO3.out (by omega)⟩
                    case measure => simp [intOf]; omega
              · obtain rfl : j = 3 := by omega
                go_wp2_with fail
                go_ret2
                exact first_ret (HFO.out HOK.out) rb
  · have h92b : (c == 92) = false := by simp [h92]
    have h92c : (c != 92) = true := by simp [h92]
    have HF : Hid (firstL (c :: t) = (c, 1)) := Lib.hid (by simp [firstL, h92])
    clear hc hB c0 c1 c2 c3 c4 c5 c6 c7 c8 c9 c10 c11 c12 c13 c14 c15 h92
    go_enter Tryd.func53, Tryd.ntmps53
    go_wp2_with fail
    go_ret2
    exact first_ret HF.out (Below.refl _ _)
end Go.Proofs.YtkiiidhfjieknaaDoor
