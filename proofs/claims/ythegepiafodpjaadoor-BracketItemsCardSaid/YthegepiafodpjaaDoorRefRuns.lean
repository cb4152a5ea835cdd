/-
  galleyref01.Runs; galleylaw01.sameRuns.
-/
import Derived.Test.YthegepiafodpjaaDoorRunsM
import Derived.Test.YthegepiafodpjaaDoorApp
import Derived.Deep.DeepCutAuto
namespace Go.Proofs.YthegepiafodpjaaDoor
open Go.RowKit

theorem runStep_end (rs : List (Nat × Nat)) (x : Nat) : ∃ L lo, runStep rs x = L ++ [(lo, x)] := by
  rcases List.eq_nil_or_concat rs with rfl | ⟨L, b, rfl⟩
  · exact ⟨[], x, runStep_nil x⟩
  · rw [List.concat_eq_append]
    by_cases h : b.2 + 1 = x
    · exact ⟨L, b.1, runStep_ext L b x h⟩
    · exact ⟨L ++ [b], x, runStep_new L b x h⟩
theorem runsU_yes (c : List Nat) (k : Nat) (hk : k < 256) (h : hasL c k = true) : runsOf (elemsU c (k + 1)) = runStep (runsOf (elemsU c k)) k := by
  rw [elemsU_yes c k hk h, runsOf_snoc]
theorem runsU_last (c : List Nat) : ∀ k, k ≤ 256 → ∀ L r, runsOf (elemsU c k) = L ++ [r] → r.2 < k
  | 0, _, L, r, h => by
    have : runsOf (elemsU c 0) = [] := rfl
    rw [this] at h
    simp at h
  | k + 1, hk, L, r, h => by
    cases hh : hasL c k with
    | true =>
      rw [runsU_yes c k (by omega) hh] at h
      obtain ⟨L2, lo, e⟩ := runStep_end (runsOf (elemsU c k)) k
      rw [e] at h
      have := (List.append_inj' h rfl).2
      simp only [List.cons.injEq, and_true] at this
      rw [← this]
      exact Nat.lt_succ_self k
    | false =>
      rw [elemsU_no c k hh] at h
      have := runsU_last c k (by omega) L r h
      omega
/-- The byte ahead is in the class: the last run grows. -/
theorem runsU_grow (c : List Nat) (k : Nat) (hk : k + 1 < 256) (h0 : hasL c k = true) (h : hasL c (k + 1) = true) : ∃ L lo, runsOf (elemsU c (k + 1)) = L ++ [(lo, k)] ∧ runsOf (elemsU c (k + 1 + 1)) = L ++ [(lo, k + 1)] := by
  obtain ⟨L, lo, e⟩ := runStep_end (runsOf (elemsU c k)) k
  rw [← runsU_yes c k (by omega) h0] at e
  exact ⟨L, lo, e, by rw [runsU_yes c (k + 1) hk h, e, runStep_ext L (lo, k) (k + 1) rfl]⟩
theorem runsU_new (c : List Nat) (k : Nat) (hk : k < 256) (h0 : k = 0 ∨ hasL c (k - 1) = false) (h : hasL c k = true) : runsOf (elemsU c (k + 1)) = runsOf (elemsU c k) ++ [(k, k)] := by
  rw [runsU_yes c k hk h]
  rcases List.eq_nil_or_concat (runsOf (elemsU c k)) with e | ⟨L, b, e⟩
  · rw [e]; exact runStep_nil k
  · rw [List.concat_eq_append] at e
    rw [e]
    refine runStep_new L b k ?_
    rcases h0 with rfl | h0
    · have := runsU_last c 0 (by omega) L b e; omega
    · by_cases k0 : k = 0
      · subst k0; have := runsU_last c 0 (by omega) L b e; omega
      · obtain ⟨j, rfl⟩ : ∃ j, k = j + 1 := ⟨k - 1, by omega⟩
        rw [show j + 1 - 1 = j by omega] at h0
        rw [elemsU_no c j h0] at e
        have := runsU_last c j (by omega) L b e
        omega
theorem cellsR_one (rs : List (Nat × Nat)) : ∀ u ∈ cellsR rs, u.oneCell' = true := by
  intro u hu
  obtain ⟨r, -, hr⟩ := List.mem_flatMap.1 hu
  simp only [List.mem_cons, List.not_mem_nil, or_false] at hr
  rcases hr with rfl | rfl <;> rfl
/-- append(l, r): one run. -/
theorem append_r1 {ops : Array Oper} {rest : List Oper} {o : Oper} {a : Act} {w : World} {Q : Exit → Act → World → Prop} (hgd : o.guard = none) (s x : Operand)
    (ho : o.op = .call { callee := .builtin .append, args := #[s, x], argTypes := #[92, 92] })
    (base : Nat) (v : Value) (rs : List (Nat × Nat)) (y z : Nat) (hs : a.eval s = v) (hown : OwnRn w base v rs) (hx : a.eval x = .slice (some ⟨w.heap.size, 0, none⟩) 1 1) (hsum : rs.length + 1 ≤ 4398046511104) (hbase : base ≤ w.heap.size)
    (h : ∀ v' w', OwnRn w' base v' (rs ++ [(y, z)]) → AppPost w w' base v v' → wpList Tryd.prog ops Q rest (a.put o.dst v') w') :
    wpList Tryd.prog ops Q (o :: rest) a (w.alloc (.cells #[.int .u8 (y : Int), .int .u8 (z : Int)] 95)) := by
  obtain ⟨i0, hi, hz0, hz1, hz2⟩ := info_parts infoRun
  refine wpList_append_own_at _ hgd s x 92 ho base 95 i0 _ 2 2 Tryd.underlying92 hi hz0 hz1 hz2 rfl (by decide) v rs.length (cellsR rs) hs (World.ownsRow.alloc hown _) ⟨w.heap.size, 0, none⟩ 1 1 (cellsR [(y, z)]) hx rfl (two_cells w _ _ _) (cellsR_one _) (by unfold maxLen; omega) (by omega) (by rw [World.size_alloc]; omega) ?_
  intro v' w' hown' hgrow _ hat
  refine h v' w' ?_ (app_post hown (Nat.le_refl _) hbase ((Below.refl _ w).alloc (Nat.le_refl _) _) hgrow hat)
  unfold OwnRn
  rw [List.length_append, cellsR_append]
  exact hown'
theorem OwnRn.mono {w : World} {base base' : Nat} {v : Value} {rs : List (Nat × Nat)} (h : OwnRn w base v rs) (hb : base' ≤ base) : OwnRn w base' v rs :=
  ⟨h.1, h.2.imp_right fun ⟨g, cap, cur, e, hg, r⟩ => ⟨g, cap, cur, e, Nat.le_trans hb hg, r⟩⟩
theorem OwnRn.below {w w' : World} {base : Nat} {v : Value} {rs : List (Nat × Nat)} (h : OwnRn w base v rs) (hb : Below w.heap.size w w') : OwnRn w' base v rs :=
  ⟨h.1, h.2.imp_right fun ⟨g, cap, cur, e, hg, hk, r⟩ => ⟨g, cap, cur, e, hg, (hb.block g (Array.getElem?_eq_some_iff.1 hk).1).trans hk, r⟩⟩
theorem OwnRn.shape {w : World} {base : Nat} {v : Value} {rs : List (Nat × Nat)} (h : OwnRn w base v rs) : ∃ b c, v = .slice b rs.length c := by
  rcases h.2 with ⟨rfl, hn⟩ | ⟨g, cap, cur, rfl, _⟩
  · exact ⟨none, 0, by rw [hn]⟩
  · exact ⟨_, _, rfl⟩

set_option maxRecDepth 100000 in
set_option maxHeartbeats 1000000 in
theorem refRuns_any (w : World) (c : List Nat) (hc : IsC c) : Calls Tryd.prog 41 #[.agg (row64 c)] w fun e w' => ∃ v, e = .returned v ∧ OwnRn w' w.heap.size v (runsOf (elemsL c)) ∧ Below w.heap.size w w' := by
  have ra : Arr64 (w.alloc (.cells (row64 c) 28)) w.heap.size 28 c := Arr64.new _ _ _
  have hb0 := (Below.refl w.heap.size w).alloc (Nat.le_refl _) (.cells (row64 c) 28)
  have HHAS : Hid (∀ W (k : Nat), k < 256 → Calls Tryd.prog 40 #[.agg (row64 c), .int .u8 k] W fun e w' => e = .returned (.bool (hasL c k)) ∧ Below W.heap.size W w') := Lib.hid fun W k hk => refHas_any W c hc k hk
  obtain ⟨ag, hag⟩ : ∃ ag, row64 c = ag := ⟨_, rfl⟩
  have HCELL : Hid (∃ p0 p1 p2 p3 : Nat, ag = #[.int .u64 (p0 : Int), .int .u64 (p1 : Int), .int .u64 (p2 : Int), .int .u64 (p3 : Int)] ∧ ∀ W, Arr64 W w.heap.size 28 c → W.cell? ⟨w.heap.size, 0, none⟩ = some (.int .u64 (p0 : Int)) ∧ W.cell? ⟨w.heap.size, 1, none⟩ = some (.int .u64 (p1 : Int)) ∧ W.cell? ⟨w.heap.size, 2, none⟩ = some (.int .u64 (p2 : Int)) ∧ W.cell? ⟨w.heap.size, 3, none⟩ = some (.int .u64 (p3 : Int))) := Lib.hid (by
    obtain ⟨p0, p1, p2, p3, rfl⟩ := isC_words c hc
    exact ⟨p0, p1, p2, p3, hag.symm, fun W h => h.four rfl⟩)
  rw [hag] at ra hb0 HHAS ⊢
  obtain ⟨p0, p1, p2, p3, hag2, hcell⟩ := HCELL.out
  subst hag2
  have HCELL := Lib.hid hcell
  have HC := Lib.hid hc
  clear hc hag hcell
  go_enter Tryd.func41, Tryd.ntmps41
  go_wp2_with fail
  go_loopw [3, 4] (fun v3 i wr => ∃ k : Nat, k ≤ 256 ∧ i = .int .i64 k ∧ OwnRn wr (w.heap.size + 1) v3 (runsOf (elemsU c k)) ∧ Arr64 wr w.heap.size 28 c ∧ Below w.heap.size w wr) (fun _ i _ => 256 - (intOf i).toNat)
  case atStart => exact ⟨0, by omega, rfl, World.ownsRow_nil _ _ _ _, ra, hb0⟩
  case round =>
    obtain ⟨k, hk, rfl, ho, ra, ab⟩ := hrel
    obtain ⟨a3, c3, hv3⟩ := ho.shape
    subst hv3
    have hl := runsOf_len (elemsU c k)
    have hl2 := elemsU_len c k
    by_cases hlt : k < 256
    · have hw : IntKind.u8.wrap (k : Int) = (k : Int) := by rw [IntKind.wrap_u8]; omega
      have hd : decide ((k : Int) < 256) = true := by simp; omega
      obtain ⟨x0, x1, x2, x3⟩ := HCELL.out _ ra
      have HH1 := Lib.hid (HHAS.out wr k hlt)
      have HR := Lib.hid (And.intro ho (And.intro ra ab))
      have HLL := Lib.hid (And.intro hl hl2)
      have HK := Lib.hid (And.intro hk hlt)
      obtain ⟨n3, hn3⟩ : ∃ n3, (runsOf (elemsU c k)).length = n3 := ⟨_, rfl⟩
      have HN3 := Lib.hid hn3
      rw [hn3]
      have hn3b : n3 ≤ 256 := by omega
      clear ho ra ab hl hl2 hn3
      go_wp2_with fail
      refine HH1.out.mono ?_
      rintro e w1 ⟨rfl, hb1⟩
      have ra := HR.out.2.1.below hb1 HR.out.2.1.lt
      have ho := HR.out.1.below hb1
      rw [HN3.out] at ho
      have ab := HR.out.2.2.trans (hb1.mono HR.out.2.2.size)
      clear hb1 HH1 HR x0 x1 x2 x3
      cases hva : hasL c k with
      | false =>
        have HN := Lib.hid (elemsU_no c k hva)
        have HF := Lib.hid (And.intro ho (And.intro ra ab))
        clear hva ho ra ab
        go_wp2_with fail
        go_roundw
        case rel => exact ⟨k + 1, by have := HK.out; omega, by go_num, by rw [HN.out]; exact HF.out.1, HF.out.2.1, HF.out.2.2⟩
        case measure => simp [intOf]; omega
      | true =>
        have HVA := Lib.hid hva
        clear hva
        by_cases hk0 : k = 0
        · subst hk0
          have HN := Lib.hid (runsU_new c 0 (by omega) (.inl rfl) HVA.out)
          have hsz := ra.lt
          have HF := Lib.hid (And.intro ra ab)
          clear ra ab hd hw
          go_wp2_with (at_builtin; refine append_r1 rfl (.tmp 31) (.tmp 37) rfl (w.heap.size + 1) _ (runsOf (elemsU c 0)) 0 0 rfl ho rfl (by have := HN3.out; omega) hsz ?_)
          intro v' w9 ho9 hA9
          have rb9 := hA9.bel _ _ HF.out.2 (by omega)
          have ra9 : Arr64 w9 w.heap.size 28 c := (hA9.block _ HF.out.1.lt (fun e => by have := (World.ownsRow.lt ho _ e).1; omega)).trans HF.out.1
          rw [← HN.out] at ho9
          have HO := Lib.hid (And.intro ho9 (And.intro ra9 rb9))
          clear ho9 hA9 ho ra9 rb9
          go_wp2_with fail
          go_roundw
          case rel => exact ⟨0 + 1, by have := HK.out; omega, by go_num, HO.out.1, HO.out.2.1, HO.out.2.2⟩
          case measure => simp [intOf]; try omega
        · obtain ⟨j, rfl⟩ : ∃ j, k = j + 1 := ⟨k - 1, by omega⟩
          have hj : j < 256 := by omega
          obtain ⟨x0, x1, x2, x3⟩ := HCELL.out _ ra
          have HH1 := Lib.hid (HHAS.out w1 j hj)
          have hd2 : decide ((0 : Int) < ((j + 1 : Nat) : Int)) = true := by simp
          have hw2 : IntKind.u8.wrap (j : Int) = (j : Int) := by rw [IntKind.wrap_u8]; omega
          have HR := Lib.hid (And.intro ho (And.intro ra ab))
          have hsz := ra.lt
          clear ho ra ab
          go_wp2_with fail
          refine HH1.out.mono ?_
          rintro e w2 ⟨rfl, hb2⟩
          have ra := HR.out.2.1.below hb2 HR.out.2.1.lt
          have ho := HR.out.1.below hb2
          have ab := HR.out.2.2.trans (hb2.mono HR.out.2.2.size)
          have hsz := ra.lt
          clear hb2 HH1 HR x0 x1 x2 x3
          cases hvj : hasL c j with
          | true =>
            obtain ⟨L, lo, e1, e2⟩ := runsU_grow c j (by have := HK.out; omega) hvj HVA.out
            have HN := Lib.hid e2
            have hlen : L.length + 1 = n3 := by rw [← HN3.out, e1]; simp
            rw [e1] at ho
            obtain ⟨m, hm⟩ : ∃ m, L.length = m := ⟨_, rfl⟩
            rw [hm] at hlen
            subst hlen
            have hrow : w2.ownsRow (w.heap.size + 1) 95 2 (.slice a3 (m + 1) c3) (m + 1) (cellsR (L ++ [(lo, j)])) := by
              have := ho
              unfold OwnRn at this
              rwa [List.length_append, hm] at this
            obtain ⟨g, cap, he⟩ := ownsRow_succ hrow
            simp only [Value.slice.injEq] at he
            obtain ⟨rfl, -, rfl⟩ := he
            have hcl := hrow.cellAt (L.length * 2 + 1) (by omega)
            rw [cellsR_last, hm] at hcl
            have hcl : w2.cell? ⟨g, m * 2 + 1, none⟩ = some (.int .u8 (j : Int)) := hcl
            have hfl := hrow.frozenAt (m * 2 + 1)
            have hst := hrow.stored (L.length * 2 + 1) (.int .u8 ((j + 1 : Nat) : Int))
            rw [cellsR_set, hm] at hst
            have hgn := run_not_cls ra hrow
            have hglt := hrow.lt g rfl
            have HO : Hid (OwnRn (w2.setCell ⟨g, m * 2 + 1, none⟩ (.int .u8 ((j : Int) + 1))) (w.heap.size + 1) (.slice (some ⟨g, 0, none⟩) (m + 1) c3) (runsOf (elemsU c (j + 1 + 1))) ∧ Arr64 (w2.setCell ⟨g, m * 2 + 1, none⟩ (.int .u8 ((j : Int) + 1))) w.heap.size 28 c ∧ Below w.heap.size w (w2.setCell ⟨g, m * 2 + 1, none⟩ (.int .u8 ((j : Int) + 1)))) := Lib.hid (by
              refine ⟨?_, ra.other _ (fun e => hgn (by rw [e]; rfl)) _, ab.setCell (by show w.heap.size ≤ g; omega) _⟩
              rw [HN.out]
              unfold OwnRn
              rw [List.length_append, hm]
              exact hst.1)
            clear hst hgn hrow ho e1 e2 ra ab hglt hm hvj
            go_wp2_with fail
            go_roundw
            case rel => exact ⟨j + 1 + 1, by have := HK.out; omega, by go_num, HO.out.1, HO.out.2.1, HO.out.2.2⟩
            case measure => simp [intOf]; omega
          | false =>
            have HN := Lib.hid (runsU_new c (j + 1) (by have := HK.out; omega) (.inr hvj) HVA.out)
            have HF := Lib.hid (And.intro ra ab)
            clear ra ab hvj
            go_wp2_with (at_builtin; refine append_r1 rfl (.tmp 31) (.tmp 37) rfl (w.heap.size + 1) _ (runsOf (elemsU c (j + 1))) (j + 1) (j + 1) rfl ho rfl (by have := HN3.out; omega) hsz ?_)
            intro v' w9 ho9 hA9
            have rb9 := hA9.bel _ _ HF.out.2 (by omega)
            have ra9 : Arr64 w9 w.heap.size 28 c := (hA9.block _ HF.out.1.lt (fun e => by have := (World.ownsRow.lt ho _ e).1; omega)).trans HF.out.1
            rw [← HN.out] at ho9
            have HO := Lib.hid (And.intro ho9 (And.intro ra9 rb9))
            clear ho9 hA9 ho ra9 rb9
            go_wp2_with fail
            go_roundw
            case rel => exact ⟨j + 1 + 1, by have := HK.out; omega, by go_num, HO.out.1, HO.out.2.1, HO.out.2.2⟩
            case measure => simp [intOf]; try omega
    · obtain rfl : k = 256 := by omega
      go_wp2_with fail
      go_ret
      exact ⟨_, rfl, ho.mono (Nat.le_succ _), ab⟩
theorem cellsR_get : ∀ (rs : List (Nat × Nat)) (i : Nat), i < rs.length → (cellsR rs)[i * 2]? = some (.int .u8 ((rs[i]?.getD (0, 0)).1 : Int)) ∧ (cellsR rs)[i * 2 + 1]? = some (.int .u8 ((rs[i]?.getD (0, 0)).2 : Int))
  | [], i, h => absurd h (Nat.not_lt_zero _)
  | m :: l, 0, _ => by simp [cellsR]
  | m :: l, i + 1, h => by
    have := cellsR_get l i (by simpa using h)
    unfold cellsR at this ⊢
    rw [List.flatMap_cons, show (i + 1) * 2 = i * 2 + 1 + 1 by omega]
    simpa using this
theorem OwnRn.at_ {w : World} {base : Nat} {v : Value} {rs : List (Nat × Nat)} (h : OwnRn w base v rs) (h0 : 0 < rs.length) : ∃ g cap, v = .slice (some ⟨g, 0, none⟩) rs.length cap ∧ ∀ k, k < rs.length → w.cell? ⟨g, k * 2, none⟩ = some (.int .u8 ((rs[k]?.getD (0, 0)).1 : Int)) ∧ w.cell? ⟨g, k * 2 + 1, none⟩ = some (.int .u8 ((rs[k]?.getD (0, 0)).2 : Int)) := by
  rcases h.2 with ⟨rfl, hn⟩ | ⟨g, cap, cur, rfl, hr⟩
  · have : rs.length = 0 := hn; omega
  · refine ⟨g, cap, rfl, fun k hk => ?_⟩
    obtain ⟨e1, e2⟩ := cellsR_get rs k hk
    have hl := cellsR_len rs
    exact ⟨(World.ownsRow.cellAt h (k * 2) (by omega)).trans e1, (World.ownsRow.cellAt h (k * 2 + 1) (by omega)).trans e2⟩
end Go.Proofs.YthegepiafodpjaaDoor
