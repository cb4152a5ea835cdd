/-
  galleyref16.Print.
-/
import Derived.Test.YtdbkoephkdfbfaaDoorRefAsk
import Derived.Test.YtdbkoephkdfbfaaDoorPrintP
import Derived.Test.YtdbkoephkdfbfaaDoorBagM
namespace Go.Proofs.YtdbkoephkdfbfaaDoor
open Go.RowKit

/-- append(l, marks..): marks that have just been laid. -/
theorem append_mks {ops : Array Oper} {rest : List Oper} {o : Oper} {a : Act} {w : World} {Q : Exit → Act → World → Prop} (hgd : o.guard = none) (s x : Operand)
    (ho : o.op = .call { callee := .builtin .append, args := #[s, x], argTypes := #[72, 72] })
    (base : Nat) (v : Value) (xs ms : List Mk) (n : Nat) (cs : Array Value) (hcs : cs = (mkCells ms).toArray) (hn : ms.length = n) (hs : a.eval s = v) (hown : OwnM w base v xs) (hx : a.eval x = .slice (some ⟨w.heap.size, 0, none⟩) n n) (hsum : xs.length + n ≤ 70368744177664) (hbase : base ≤ w.heap.size)
    (h : ∀ v' w', OwnM w' base v' (xs ++ ms) → AppPost w w' base v v' → wpList Tryd.prog ops Q rest (a.put o.dst v') w') :
    wpList Tryd.prog ops Q (o :: rest) a (w.alloc (.cells cs 82)) := by
  obtain ⟨i0, hi, hz0, hz1, hz2⟩ := info_parts infoM
  exact append_new hgd s x 72 82 i0 (.agg #[.int .u8 0, .bool false]) 2 2 ho Tryd.underlying72 hi hz0 hz1 hz2 rfl (by decide) base v xs.length (mkCells xs) hs hown n (mkCells ms) cs hcs (by rw [mkCells_len, hn]) (mkCells_one ms) hx (by unfold maxLen; omega) (by omega) hbase
    fun v' w' ho' _ hp => h v' w' (ownm_step hn.symm ho') hp
theorem neMP : (82 : TypeId) ≠ 122 := by decide

theorem rprint_no (w : World) (ap : Option Addr) (np cp : Nat) (p : List Pc) (sp : PS w (.slice ap np cp) p) (h : shapedL p = false) :
    Calls Tryd.prog 41 #[.slice ap np cp] w fun e w' => e = .returned (.tuple #[.slice none 0 0, .int .i64 61]) ∧ Below w.heap.size w w' := by
  have hsh := rshaped_any w ap np cp p sp
  rw [h] at hsh
  clear h
  go_enter Tryd.func41, Tryd.ntmps41
  go_wp2_with fail
  refine hsh.mono ?_
  rintro e w1 ⟨rfl, hb1⟩
  go_wp2_with fail
  go_ret2
  exact ⟨rfl, hb1⟩

/-- The marks so far, and the piece that is being written. -/
structure RP (w wr : World) (bx : Nat) (x y v : Value) (l : List Mk) : Prop where
  own : OwnM wr w.heap.size v l
  box : wr.heap[bx]? = some (.cells #[x, y] 122 (0, 0))
  bel : Below w.heap.size w wr
theorem RP.app {w wr w' : World} {bx : Nat} {x y v v' : Value} {l l' : List Mk} (h : RP w wr bx x y v l) (ho : OwnM w' w.heap.size v' l') (hp : AppPost wr w' w.heap.size v v') : RP w w' bx x y v' l' :=
  ⟨ho, (KeepT.of_app h.own hp neMP bx _ h.box).trans h.box, hp.bel _ _ h.bel (Nat.le_refl _)⟩

set_option maxHeartbeats 4000000 in
set_option maxRecDepth 100000 in
theorem rprint_yes (w : World) (ap : Option Addr) (np cp : Nat) (p : List Pc) (sp : PS w (.slice ap np cp) p) (h : shapedL p = true) (hsum : p.length + bytesP p ≤ 4294967296) :
    Calls Tryd.prog 41 #[.slice ap np cp] w (PrintPost w (asMarks (printB p))) := by
  have hsh := rshaped_any w ap np cp p sp
  rw [h] at hsh
  obtain ⟨hpl, hpn, _, _⟩ := sp.len
  have HPL := Lib.hid hpl
  have H := Lib.hid h
  clear hpl h
  go_enter Tryd.func41, Tryd.ntmps41
  go_wp2_with fail
  refine hsh.mono ?_
  rintro e w1 ⟨rfl, hb1⟩
  clear hsh
  go_wp2_with fail
  go_loopw [4, 5] (fun vo i wr => ∃ k : Nat, k ≤ np ∧ i = .int .i64 k ∧ OwnM wr w.heap.size vo (asMarks (printB (p.take k))) ∧ Below w.heap.size w wr) (fun _ i _ => np - (intOf i).toNat)
  case atStart => exact ⟨0, Nat.zero_le _, rfl, OwnM.nil _ _, hb1⟩
  case round =>
    obtain ⟨k, hk, rfl, ho, rb⟩ := hrel
    have hbs := rb.size
    have hlen : (asMarks (printB (p.take k))).length ≤ 2 * 4294967296 := by
      rw [asMarks_len]
      have h1 := print_len (p.take k)
      have h2 := bytesP_take p k
      have h3 : (p.take k).length ≤ p.length := List.length_take_le' _ _
      omega
    by_cases hlt : k < np
    · have hkp : k < p.length := by rw [HPL.out]; exact hlt
      obtain ⟨b, o, rfl, hc⟩ := sp.read k hlt
      obtain ⟨hc1, ad2, n2, c2, hc2, s2, hn2, hN2⟩ := hc k hlt
      have hc1 := (rb.cell (World.block_lt_of_cell? _ _ hc1)).trans hc1
      have hc2 := (rb.cell (World.block_lt_of_cell? _ _ hc2)).trans hc2
      have hi := sp.1 k
      have hat := shaped_at p H.out k hkp
      have hby := bytesP_at p k hkp
      have hps := print_snoc p (0, []) k hkp
      clear hc
      generalize p[k]?.getD (0, []) = z at hc1 hc2 s2 hi hat hby hps
      obtain ⟨g, tx⟩ := z
      simp only at hc1 hc2 s2 hi hat hby
      generalize printB (p.take k) = pb at ho hlen hps
      have HPS := Lib.hid hps
      have htx := s2.len.1
      have htn := s2.len.2
      have HTX := Lib.hid htx
      clear hps hi htx
      have hb3 := (Below.refl wr.heap.size wr).alloc (Nat.le_refl _) (.cells #[.int .i64 g, .slice ad2 n2 c2] 122)
      have hR : RP w (wr.alloc (.cells #[.int .i64 g, .slice ad2 n2 c2] 122)) wr.heap.size (.int .i64 g) (.slice ad2 n2 c2) _ (asMarks pb) := ⟨own_below ho hb3, heap_alloc_new wr _, rb.trans (hb3.mono hbs)⟩
      have HT := Lib.hid s2
      go_upto_region 8 with fail
      obtain ⟨bx, hbx⟩ : ∃ bx, wr.heap.size = bx := ⟨_, rfl⟩
      rw [hbx] at hR ⊢
      generalize wr.alloc (.cells #[.int .i64 g, .slice ad2 n2 c2] 122) = w3 at hR HT ⊢
      clear hc1 hc2 hb3 ho rb hbs hbx s2
      obtain ⟨c1, c2'⟩ := bx_cell hR.box
      by_cases h1 : g = -1
      · subst h1
        have HE : Hid (asMarks (printB (p.take (k + 1))) = asMarks pb ++ asMarks (tx.flatMap wrB)) := by rw [HPS.out, asMarks_append]; exact Lib.hid rfl
        have HR := Lib.hid hR
        clear HPS hat hR
        go_wp2_with fail
        go_loopw [4, 7, 8] (fun vo j _ wr => ∃ q : Nat, q ≤ n2 ∧ j = .int .i64 q ∧ RP w wr bx (.int .i64 (-1)) (.slice ad2 n2 c2) vo (asMarks pb ++ asMarks ((tx.take q).flatMap wrB))) (fun _ j _ _ => n2 - (intOf j).toNat)
        case atStart => exact ⟨0, Nat.zero_le _, rfl, by simpa [asMarks] using HR.out⟩
        case round =>
          obtain ⟨q, hq, rfl, hR5⟩ := hrel
          have hlen5 : (asMarks pb ++ asMarks ((tx.take q).flatMap wrB)).length ≤ 4 * 4294967296 := by
            rw [List.length_append, asMarks_len ((tx.take q).flatMap wrB)]
            have h1 := wr_len (tx.take q)
            have h2 : (tx.take q).length ≤ tx.length := List.length_take_le' _ _
            omega
          have hs5 := hR5.bel.size
          obtain ⟨d1, d2⟩ := bx_cell hR5.box
          by_cases hqn : q < n2
          · have s5 := HT.out.below hR5.bel
            obtain ⟨bt, ot, rfl, hct⟩ := s5.read q hqn
            have hcq := hct q hqn
            have hx := s5.1 q
            have hst := take_snoc tx q (by rw [HTX.out]; exact hqn)
            generalize tx[q]?.getD 0 = x at hcq hx hst
            have HST : Hid (asMarks pb ++ asMarks ((tx.take (q + 1)).flatMap wrB) = (asMarks pb ++ asMarks ((tx.take q).flatMap wrB)) ++ asMarks (wrB x)) := by
              rw [hst, List.flatMap_append, asMarks_append, ← List.append_assoc]
              simp only [List.flatMap_cons, List.flatMap_nil, List.append_nil]
              exact Lib.hid trivial
            clear hst hct s5
            generalize asMarks pb ++ asMarks ((tx.take q).flatMap wrB) = ex at hR5 hlen5 HST
            have hown := hR5.own
            have HR5 := Lib.hid hR5
            have HX := Lib.hid hx
            clear hR5 hx c1 c2' d1
            by_cases e1 : x = 38 ∨ x = 92
            · have HW : Hid (wrB x = [92] ++ [x]) := Lib.hid (by unfold wrB; rw [if_pos e1]; rfl)
              have q0 : (x == 10) = false := beq_eq_false_iff_ne.2 (by omega)
              rcases e1 with rfl | rfl
              · go_wp2_with (at_builtin; refine append_mks rfl (.tmp 63) (.tmp 65) rfl w.heap.size _ _ (asMarks [92]) 1 _ rfl rfl rfl hown rfl (by omega) hs5 ?_)
                intro v6 w6 ho6 hp6
                have hR6 := HR5.out.app ho6 hp6
                have hs6 := hR6.bel.size
                have hown := hR6.own
                have HR6 := Lib.hid hR6
                clear hR6 ho6 hp6 d2
                go_wp2_with (at_builtin; refine append_mks rfl (.tmp 69) (.tmp 72) rfl w.heap.size _ _ (asMarks [_]) 1 _ rfl rfl rfl hown rfl (by first | omega | (simp only [List.length_append, asMarks_len, List.length_cons, List.length_nil]; omega)) hs6 ?_)
                intro v7 w7 ho7 hp7
                have hR7 := HR6.out.app ho7 hp7
                have HR7 : Hid (RP w w7 bx (.int .i64 (-1)) (.slice (some ⟨bt, ot, none⟩) n2 c2) v7 (asMarks pb ++ asMarks ((tx.take (q + 1)).flatMap wrB))) := Lib.hid (by rw [HST.out, HW.out]; simpa [asMarks] using hR7)
                clear hR7 ho7 hp7 hown
                go_wp2_with fail
                go_roundw
                case rel => exact ⟨q + 1, by omega, by go_num, HR7.out⟩
                case measure => simp [intOf]; omega
              · go_wp2_with (at_builtin; refine append_mks rfl (.tmp 63) (.tmp 65) rfl w.heap.size _ _ (asMarks [92]) 1 _ rfl rfl rfl hown rfl (by omega) hs5 ?_)
                intro v6 w6 ho6 hp6
                have hR6 := HR5.out.app ho6 hp6
                have hs6 := hR6.bel.size
                have hown := hR6.own
                have HR6 := Lib.hid hR6
                clear hR6 ho6 hp6 d2
                go_wp2_with (at_builtin; refine append_mks rfl (.tmp 69) (.tmp 72) rfl w.heap.size _ _ (asMarks [_]) 1 _ rfl rfl rfl hown rfl (by first | omega | (simp only [List.length_append, asMarks_len, List.length_cons, List.length_nil]; omega)) hs6 ?_)
                intro v7 w7 ho7 hp7
                have hR7 := HR6.out.app ho7 hp7
                have HR7 : Hid (RP w w7 bx (.int .i64 (-1)) (.slice (some ⟨bt, ot, none⟩) n2 c2) v7 (asMarks pb ++ asMarks ((tx.take (q + 1)).flatMap wrB))) := Lib.hid (by rw [HST.out, HW.out]; simpa [asMarks] using hR7)
                clear hR7 ho7 hp7 hown
                go_wp2_with fail
                go_roundw
                case rel => exact ⟨q + 1, by omega, by go_num, HR7.out⟩
                case measure => simp [intOf]; omega
            · have q1 : (x == 38) = false := beq_eq_false_iff_ne.2 (by omega)
              have q2 : (x == 92) = false := beq_eq_false_iff_ne.2 (by omega)
              by_cases e2 : x = 10
              · subst e2
                have HW : Hid (wrB 10 = [92] ++ [110]) := Lib.hid rfl
                clear e1
                go_wp2_with (at_builtin; refine append_mks rfl (.tmp 63) (.tmp 65) rfl w.heap.size _ _ (asMarks [92]) 1 _ rfl rfl rfl hown rfl (by omega) hs5 ?_)
                intro v6 w6 ho6 hp6
                have hR6 := HR5.out.app ho6 hp6
                have hs6 := hR6.bel.size
                have hown := hR6.own
                have HR6 := Lib.hid hR6
                clear hR6 ho6 hp6 d2
                go_wp2_with (at_builtin; refine append_mks rfl (.tmp 69) (.tmp 72) rfl w.heap.size _ _ (asMarks [110]) 1 _ rfl rfl rfl hown rfl (by first | omega | (simp only [List.length_append, asMarks_len, List.length_cons, List.length_nil]; omega)) hs6 ?_)
                intro v7 w7 ho7 hp7
                have hR7 := HR6.out.app ho7 hp7
                have HR7 : Hid (RP w w7 bx (.int .i64 (-1)) (.slice (some ⟨bt, ot, none⟩) n2 c2) v7 (asMarks pb ++ asMarks ((tx.take (q + 1)).flatMap wrB))) := Lib.hid (by rw [HST.out, HW.out]; simpa [asMarks] using hR7)
                clear hR7 ho7 hp7 hown
                go_wp2_with fail
                go_roundw
                case rel => exact ⟨q + 1, by omega, by go_num, HR7.out⟩
                case measure => simp [intOf]; omega
              · have q3 : (x == 10) = false := beq_eq_false_iff_ne.2 e2
                have HW : Hid (wrB x = [x]) := Lib.hid (by unfold wrB; rw [if_neg e1, if_neg e2])
                clear e1 e2
                go_wp2_with (at_builtin; refine append_mks rfl (.tmp 69) (.tmp 72) rfl w.heap.size _ _ (asMarks [x]) 1 _ rfl rfl rfl hown rfl (by first | omega | (simp only [List.length_append, asMarks_len, List.length_cons, List.length_nil]; omega)) hs5 ?_)
                intro v7 w7 ho7 hp7
                have hR7 := HR5.out.app ho7 hp7
                have HR7 : Hid (RP w w7 bx (.int .i64 (-1)) (.slice (some ⟨bt, ot, none⟩) n2 c2) v7 (asMarks pb ++ asMarks ((tx.take (q + 1)).flatMap wrB))) := Lib.hid (by rw [HST.out, HW.out]; simpa [asMarks] using hR7)
                clear hR7 ho7 hp7 hown
                go_wp2_with fail
                go_roundw
                case rel => exact ⟨q + 1, by omega, by go_num, HR7.out⟩
                case measure => simp [intOf]; omega
          · have e : tx.take q = tx := List.take_of_length_le (by rw [HTX.out]; omega)
            rw [e, ← HE.out] at hR5
            have HR5 := Lib.hid hR5
            clear hR5 e hlen5 d1 c1 c2'
            go_wp2_with fail
            go_roundw
            case rel => exact ⟨k + 1, by omega, by go_num, HR5.out.own, HR5.out.bel⟩
            case measure => simp [intOf]; omega
      · obtain ⟨h0, h9, rfl⟩ := hat.resolve_left h1
        have hn0 : n2 = 0 := HTX.out.symm
        subst hn0
        have h1' : (g == -1) = false := beq_eq_false_iff_ne.2 h1
        have hs3 := hR.bel.size
        by_cases hz : g = 0
        · subst hz
          have HE : Hid (asMarks (printB (p.take (k + 1))) = asMarks pb ++ asMarks [38]) := by rw [HPS.out, asMarks_append]; exact Lib.hid rfl
          have hown := hR.own
          have HR := Lib.hid hR
          clear hR HPS h1 hat
          go_wp2_with (at_builtin; refine append_mks rfl (.tmp 25) (.tmp 27) rfl w.heap.size _ _ (asMarks [38]) 1 _ rfl rfl rfl hown rfl (by omega) hs3 ?_)
          intro v' w4 ho4 hp4
          have hR4 := HR.out.app ho4 hp4
          rw [← HE.out] at hR4
          obtain ⟨d1, d2⟩ := bx_cell hR4.box
          have HR4 := Lib.hid hR4
          clear hR4 ho4 hp4 hown c1 c2' HR
          go_wp2_with fail
          go_loopw [4, 7, 8] (fun vo j _ wr => vo = v' ∧ j = .int .i64 0 ∧ wr = w4) (fun _ _ _ _ => 0)
          case atStart => exact ⟨rfl, rfl, rfl⟩
          case round =>
            obtain ⟨rfl, rfl, rfl⟩ := hrel
            go_wp2_with fail
            go_roundw
            case rel => exact ⟨k + 1, by omega, by go_num, HR4.out.own, HR4.out.bel⟩
            case measure => simp [intOf]; omega
        · have HE : Hid (asMarks (printB (p.take (k + 1))) = asMarks pb ++ asMarks [92, 48 + g]) := by
            rw [HPS.out, asMarks_append]
            unfold pieceB
            simp only [h1, hz, if_false]
            exact Lib.hid trivial
          have hqz : (g == 0) = false := beq_eq_false_iff_ne.2 hz
          have hgz : decide (0 < g) = true := by simp; omega
          have hw2 : IntKind.u8.wrap (48 + g) = 48 + g := IntWalk.u8_in _ (by omega)
          have hown := hR.own
          have HR := Lib.hid hR
          clear hR HPS h1 hz hat
          go_wp2_with (at_builtin; refine append_mks rfl (.tmp 32) (.tmp 39) rfl w.heap.size _ _ (asMarks [92, 48 + g]) 2 _ rfl rfl rfl hown rfl (by omega) hs3 ?_)
          intro v' w4 ho4 hp4
          have hR4 := HR.out.app ho4 hp4
          rw [← HE.out] at hR4
          obtain ⟨d1, d2⟩ := bx_cell hR4.box
          have HR4 := Lib.hid hR4
          clear hR4 ho4 hp4 hown c1 c2' HR
          go_wp2_with fail
          go_loopw [4, 7, 8] (fun vo j _ wr => vo = v' ∧ j = .int .i64 0 ∧ wr = w4) (fun _ _ _ _ => 0)
          case atStart => exact ⟨rfl, rfl, rfl⟩
          case round =>
            obtain ⟨rfl, rfl, rfl⟩ := hrel
            go_wp2_with fail
            go_roundw
            case rel => exact ⟨k + 1, by omega, by go_num, HR4.out.own, HR4.out.bel⟩
            case measure => simp [intOf]; omega
    · have e : p.take k = p := List.take_of_length_le (by rw [HPL.out]; omega)
      rw [e] at ho
      have HO := Lib.hid ho
      obtain ⟨av, cv, rfl⟩ := own_shape ho
      clear e hlen ho
      go_wp2_with fail
      go_ret2
      exact ⟨_, rfl, HO.out, rb⟩
end Go.Proofs.YtdbkoephkdfbfaaDoor
