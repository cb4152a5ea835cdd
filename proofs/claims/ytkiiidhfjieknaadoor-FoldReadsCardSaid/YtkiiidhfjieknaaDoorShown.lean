/-
  fold.shown; galleyref18.Least.
-/
import Derived.Test.YtkiiidhfjieknaaDoorFirst
import Derived.Test.YtkiiidhfjieknaaDoorBfn
namespace Go.Proofs.YtkiiidhfjieknaaDoor
open Go.RowKit

theorem shown_end (n : Nat) : shownL n [] = some [] := by cases n <;> simp [shownL]
theorem shown_no (n : Nat) (l : List Int) (hl : l ≠ []) (h : (firstL l).2 = 0) : shownL (n + 1) l = none := by rw [shownL, if_neg hl, if_pos h]
theorem shown_step (n : Nat) (l : List Int) (hl : l ≠ []) (h : (firstL l).2 ≠ 0) : shownL (n + 1) l = (shownL n (l.drop (firstL l).2)).map fun o => (firstL l).1 :: o := by rw [shownL, if_neg hl, if_neg h]
theorem first_byte (l : List Int) (hl : InB l) : 0 ≤ (firstL l).1 ∧ (firstL l).1 ≤ 255 := by
  unfold firstL
  match l, hl with
  | [], _ => exact ⟨by simp, by simp⟩
  | c :: t, hl =>
    simp only
    split
    · exact hl c (by simp)
    · match t with
      | [] => exact ⟨by simp, by simp⟩
      | [d] => simp only; split; (unfold ltrOf; simp only; repeat' split) <;> omega; exact ⟨by simp, by simp⟩
      | [d, e] => simp only; split; (unfold ltrOf; simp only; repeat' split) <;> omega; exact ⟨by simp, by simp⟩
      | d :: e :: f :: u =>
        simp only
        split
        · unfold ltrOf; simp only; (repeat' split) <;> omega
        · split
          · simp only; omega
          · exact ⟨by simp, by simp⟩
/-- What has been read of pieces up to place k. -/
def ShownAt (l : List Int) (k : Nat) (acc : List Int) : Prop := ∃ m, l.length - k ≤ m ∧ shownL l.length l = (shownL m (l.drop k)).map (acc ++ ·)
theorem shownAt_zero (l : List Int) : ShownAt l 0 [] := ⟨l.length, by omega, by simp⟩
theorem shownAt_step (l : List Int) (k : Nat) (acc : List Int) (hk : k < l.length) (h : ShownAt l k acc) (hz : (firstL (l.drop k)).2 ≠ 0) : ShownAt l (k + (firstL (l.drop k)).2) (acc ++ [(firstL (l.drop k)).1]) := by
  obtain ⟨m, hm, he⟩ := h
  obtain ⟨m, rfl⟩ : ∃ m', m = m' + 1 := ⟨m - 1, by omega⟩
  refine ⟨m, by omega, ?_⟩
  rw [he, shown_step m _ (by intro e; have := congrArg List.length e; rw [List.length_drop] at this; simp at this; omega) hz, List.drop_drop]
  cases shownL m (l.drop (k + (firstL (l.drop k)).2)) <;> simp
theorem shownAt_no (l : List Int) (k : Nat) (acc : List Int) (hk : k < l.length) (h : ShownAt l k acc) (hz : (firstL (l.drop k)).2 = 0) : shownL l.length l = none := by
  obtain ⟨m, hm, he⟩ := h
  obtain ⟨m, rfl⟩ : ∃ m', m = m' + 1 := ⟨m - 1, by omega⟩
  rw [he, shown_no m _ (by intro e; have := congrArg List.length e; rw [List.length_drop] at this; simp at this; omega) hz]; rfl
theorem shownAt_end (l : List Int) (k : Nat) (acc : List Int) (hk : l.length ≤ k) (h : ShownAt l k acc) : shownL l.length l = some acc := by
  obtain ⟨m, hm, he⟩ := h
  rw [he, List.drop_eq_nil_of_le hk, shown_end]
  simp
def ShownPost (w : World) (l : List Int) (e : Ending) (w' : World) : Prop :=
  Below w.heap.size w w' ∧ match shownL l.length l with
  | none => e = .returned (.tuple #[.slice none 0 0, .bool false])
  | some x => ∃ v, e = .returned (.tuple #[v, .bool true]) ∧ OwnB w' w.heap.size v x ∧ InB x ∧ x.length ≤ l.length
theorem shown_none {w w' : World} {l : List Int} (h : shownL l.length l = none) (hb : Below w.heap.size w w') : ShownPost w l (.returned (.tuple #[.slice none 0 0, .bool false])) w' := by
  refine ⟨hb, ?_⟩; rw [h]
theorem shown_some {w w' : World} {l x : List Int} {v : Value} (h : shownL l.length l = some x) (hb : Below w.heap.size w w') (ho : OwnB w' w.heap.size v x) (hx : InB x) (hl : x.length ≤ l.length) : ShownPost w l (.returned (.tuple #[v, .bool true])) w' := by
  refine ⟨hb, ?_⟩; rw [h]; exact ⟨_, rfl, ho, hx, hl⟩

set_option maxHeartbeats 2000000 in
theorem shown_any (w : World) (a : Option Addr) (n c : Nat) (l : List Int) (h : SBC w a n c l) (hL : LetW w) : Calls Tryd.prog 44 #[.slice a n c] w (ShownPost w l) := by
  have HS := Lib.hid h
  have HL := Lib.hid hL
  have HIN := Lib.hid h.inB
  have HLN := Lib.hid h.len
  have hn47 := h.1.len.2
  have hcap := h.2.1
  clear h hL
  go_enter Tryd.func44, Tryd.ntmps44
  go_wp2_with fail
  go_loopw [4, 5] (fun v4 v5 wr => ∃ (k : Nat) (acc : List Int), k ≤ n ∧ v5 = .int .i64 k ∧ OwnB wr w.heap.size v4 acc ∧ Below w.heap.size w wr ∧ Hid (ShownAt l k acc ∧ InB acc) ∧ acc.length ≤ k) (fun _ v5 _ => n - (intOf v5).toNat)
  case atStart => exact ⟨0, [], by omega, rfl, OwnB.nil _ _, Below.refl _ _, Lib.hid ⟨shownAt_zero l, fun c hc => by cases hc⟩, Nat.le_refl _⟩
  case round =>
    obtain ⟨k, acc, hk, rfl, ho, rb, HA, hal⟩ := hrel
    have hbs := rb.size
    by_cases hlt : k < n
    · have hkl : k < l.length := by rw [HLN.out]; exact hlt
      obtain ⟨b, o, rfl, hc⟩ := HS.out.cells (by omega)
      have hne : ¬ (c = k) := by omega
      have HD : Hid (SBC wr (some ⟨b, o + k, none⟩) (n - k) (c - k) (l.drop k)) := Lib.hid (SBC.mk' (by rw [List.length_drop, HLN.out]) (fun y hy => HIN.out y (List.mem_of_mem_drop hy)) (by omega) (by omega) fun i hi => by
        have h1 := hc (k + i) (by omega)
        rw [show o + k + i = o + (k + i) by omega, rb.cell (World.block_lt_of_cell? w _ h1), h1, List.getElem?_drop])
      have HF := Lib.hid (first_any wr b (o + k) (n - k) (c - k) (l.drop k) HD.out.1 (by omega) (by omega) (HL.out.below rb (Nat.le_refl _)))
      have HFB := Lib.hid (first_byte (l.drop k) (fun y hy => HIN.out y (List.mem_of_mem_drop hy)))
      have HFL := Lib.hid (first_le (l.drop k))
      have HST := Lib.hid (shownAt_step l k acc hkl HA.out.1)
      have HNO := Lib.hid (shownAt_no l k acc hkl HA.out.1)
      clear hc
      go_wp2_with fail
      refine HF.out.mono ?_
      rintro e w1 ⟨rfl, hb1⟩
      have hfb := HFB.out
      have hfl := HFL.out
      rw [List.length_drop, HLN.out] at hfl
      generalize (firstL (l.drop k)).1 = x at hfb HST
      generalize (firstL (l.drop k)).2 = sz at hfl HST HNO
      have ho := ho.below hb1
      have rb := rb.trans (hb1.mono hbs)
      have hbs := rb.size
      clear HF HD HFB HFL hb1
      by_cases hz : sz = 0
      · have HZ := Lib.hid (HNO.out hz)
        subst hz
        clear HST HNO
        go_wp2_with fail
        go_ret2
        exact shown_none HZ.out rb
      · have HZ := Lib.hid (HST.out hz)
        have hz2 : ((sz : Int) == 0) = false := by rw [beq_eq_false_iff_ne]; omega
        have HIA : Hid (InB (acc ++ [x])) := Lib.hid (fun y hy => by
          rcases List.mem_append.1 hy with hy | hy
          · exact HA.out.2 y hy
          · rw [List.mem_singleton.1 hy]; exact hfb)
        have hal2 : (acc ++ [x]).length ≤ k + sz := by rw [List.length_append]; simp; omega
        clear HST HNO HA
        generalize hz3 : acc ++ [x] = acc2 at HZ HIA hal2
        have HZ3 := Lib.hid hz3
        clear hz3
        go_wp2_with (at_builtin; refine append_b1 rfl (.tmp 21) (.tmp 23) rfl w.heap.size _ _ x rfl ho rfl (by omega) hbs ?_)
        intro v' w2 ho' hA
        have hb2 := hA.bel _ _ rb (Nat.le_refl _)
        rw [HZ3.out] at ho'
        clear ho rb hA
        go_wp2_with fail
        go_roundw
        case rel => exact ⟨k + sz, acc2, by omega, by go_num, ho', hb2, Lib.hid ⟨HZ.out, HIA.out⟩, hal2⟩
        case measure => simp [intOf]; omega
    · have HE := Lib.hid (shownAt_end l k acc (by rw [HLN.out]; omega) HA.out.1)
      have HB2 := Lib.hid HA.out.2
      go_wp2_with fail
      go_ret2
      exact shown_some HE.out rb ho HB2.out (by rw [HLN.out]; omega)

/-! ### Least -/
theorem least_drop (l : List Int) (k m n : Nat) (hk : k < l.length) (c : Int) (hc : l[k]?.getD 0 = c) : leastGo (l.drop k) m n = leastGo (l.drop (k + 1)) (if m + 1 < (if c = 10 then 0 else n + 1) ∧ l[k + 1]? = some 10 then (if c = 10 then 0 else n + 1) - 1 else m) (if c = 10 then 0 else n + 1) := by
  have e : l.drop k = c :: l.drop (k + 1) := by
    rw [List.drop_eq_getElem_cons hk, ← hc]
    simp [hk]
  rw [e, leastGo, List.head?_drop]

set_option maxHeartbeats 2000000 in
theorem least_any (w : World) (a : Option Addr) (n c : Nat) (l : List Int) (h : SBC w a n c l) (hn31 : n ≤ 4294967296) : Calls Tryd.prog 19 #[.slice a n c] w fun e w' => e = .returned (.int .i64 (leastL l : Nat)) ∧ ∃ q, w' = w.drewN q := by
  have HS := Lib.hid h
  have HLN := Lib.hid h.len
  clear h
  go_enter Tryd.func19, Tryd.ntmps19
  go_wp2_with fail
  go_loopw [3, 4, 5] (fun v3 v4 v5 wr => ∃ (k m nn q : Nat), k ≤ n ∧ v5 = .int .i64 k ∧ v4 = .int .i64 nn ∧ v3 = .int .i64 m ∧ nn ≤ k ∧ m ≤ k + 4 ∧ Hid (leastGo (l.drop k) m nn = leastL l) ∧ wr = w.drewN q) (fun _ _ v5 _ => n - (intOf v5).toNat)
  case atStart => exact ⟨0, 4, 0, 0, by omega, rfl, rfl, rfl, by omega, by omega, Lib.hid rfl, rfl⟩
  case round =>
    obtain ⟨k, m, nn, q, hk, rfl, rfl, rfl, hnn, hm, HG, rfl⟩ := hrel
    by_cases hlt : k < n
    · have hkl : k < l.length := by rw [HLN.out]; exact hlt
      obtain ⟨b, o, rfl, hc⟩ := HS.out.cells (by omega)
      have h1 := hc k hlt
      have hst := least_drop l k m nn hkl _ rfl
      have h2 : k + 1 < n → w.cell? ⟨b, o + (k + 1), none⟩ = some (.int .u8 (l[k + 1]?.getD 0)) := fun h => hc (k + 1) h
      have h3 : k + 1 < n → (l[k + 1]? = some 10 ↔ l[k + 1]?.getD 0 = 10) := fun h => by
        have : k + 1 < l.length := by rw [HLN.out]; exact h
        rw [List.getElem?_eq_getElem this]; simp
      have h4 : ¬ k + 1 < n → l[k + 1]? = none := fun h => List.getElem?_eq_none (by rw [HLN.out]; omega)
      generalize l[k]?.getD 0 = x at h1 hst
      generalize l[k + 1]?.getD 0 = y at h2 h3
      have HST := Lib.hid hst
      have H3 := Lib.hid h3
      have H4 := Lib.hid h4
      have H2 := Lib.hid h2
      clear hc hst h3 h4 h2
      by_cases hx : x = 10
      · subst hx
        have HN := Lib.hid (show leastGo (l.drop (k + 1)) m 0 = leastL l by
          rw [← HG.out, HST.out, if_pos rfl, if_neg (by omega)])
        go_wp2_with fail
        go_roundw
        case rel => exact ⟨k + 1, m, 0, q, by omega, by go_num, rfl, rfl, by omega, by omega, HN, rfl⟩
        case measure => simp [intOf]; omega
      · have hx2 : (x == 10) = false := by simp [hx]
        have d1 : (m : Int) < (nn : Int) + 1 - 1 ↔ m < nn := by omega
        by_cases hmn : m < nn
        · by_cases hk1 : k + 1 < n
          · have hk1i : (k : Int) + 1 < (n : Int) := by omega
            have h2 := H2.out hk1
            by_cases hy : y = 10
            · have HN := Lib.hid (show leastGo (l.drop (k + 1)) nn (nn + 1) = leastL l by
                rw [← HG.out, HST.out, if_neg hx, if_pos ⟨by omega, (H3.out hk1).2 hy⟩]; rfl)
              subst hy
              clear HST H3 H4 H2 hx d1 HG
              go_wp2_with fail
              go_roundw
              case rel => exact ⟨k + 1, nn, nn + 1, q, by omega, by go_num, by go_num, by go_num, by omega, by omega, HN, rfl⟩
              case measure => simp [intOf]; omega
            · have hy2 : (y == 10) = false := by simp [hy]
              have HN := Lib.hid (show leastGo (l.drop (k + 1)) m (nn + 1) = leastL l by
                rw [← HG.out, HST.out, if_neg hx, if_neg (fun hh => hy ((H3.out hk1).1 hh.2))])
              clear HST H3 H4 H2 hx d1 HG hy
              go_wp2_with fail
              go_roundw
              case rel => exact ⟨k + 1, m, nn + 1, q, by omega, by go_num, by go_num, rfl, by omega, by omega, HN, rfl⟩
              case measure => simp [intOf]; omega
          · have hk1i : ¬ ((k : Int) + 1 < (n : Int)) := by omega
            have HN := Lib.hid (show leastGo (l.drop (k + 1)) m (nn + 1) = leastL l by
              rw [← HG.out, HST.out, if_neg hx, if_neg (fun hh => by rw [H4.out hk1] at hh; simp at hh)])
            clear HST H3 H4 H2 hx d1 HG
            go_wp2_with fail
            go_roundw
            case rel => exact ⟨k + 1, m, nn + 1, q, by omega, by go_num, by go_num, rfl, by omega, by omega, HN, rfl⟩
            case measure => simp [intOf]; omega
        · have HN := Lib.hid (show leastGo (l.drop (k + 1)) m (nn + 1) = leastL l by
            rw [← HG.out, HST.out, if_neg hx, if_neg (fun hh => by omega)])
          have hmn2 : (nn : Int) ≤ (m : Int) := by omega
          clear HST H3 H4 H2 hx d1 HG
          go_wp2_with fail
          go_roundw
          case rel => exact ⟨k + 1, m, nn + 1, q, by omega, by go_num, by go_num, rfl, by omega, by omega, HN, rfl⟩
          case measure => simp [intOf]; omega
    · have HE : Hid (leastL l = m) := Lib.hid (by rw [← HG.out, List.drop_eq_nil_of_le (by rw [HLN.out]; omega)]; rfl)
      go_wp2_with fail
      go_ret
      exact ⟨(show Ending.returned (.int .i64 (m : Nat)) = .returned (.int .i64 (leastL l : Nat)) by rw [HE.out]), q, rfl⟩
end Go.Proofs.YtkiiidhfjieknaaDoor
