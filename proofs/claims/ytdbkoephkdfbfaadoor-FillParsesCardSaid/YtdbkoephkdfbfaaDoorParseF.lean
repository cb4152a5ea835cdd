/-
  fill.Parse: marks as pieces.
-/
import Derived.Test.YtdbkoephkdfbfaaDoorGroup
import Derived.Test.YtdbkoephkdfbfaaDoorOwnM
import Derived.Deep.RegionLaw
import Derived.Deep.AppendLies
namespace Go.Proofs.YtdbkoephkdfbfaaDoor
open Go.RowKit

def goodP (y : Pc) (n : Nat) : Prop := IsI y.1 ∧ IsB y.2 ∧ y.2.length ≤ n
theorem goods_more {P : List Pc} {k n : Nat} (h : ∀ y ∈ P, goodP y k) (hkn : k ≤ n) : ∀ y ∈ P, goodP y n := fun y hy => ⟨(h y hy).1, (h y hy).2.1, Nat.le_trans (h y hy).2.2 hkn⟩
theorem goods_flush {P : List Pc} {k : Nat} {text : List Int} {n : Int} (h : ∀ y ∈ P, goodP y k) (hB : IsB text) (hl : text.length ≤ k) (hn0 : -1 ≤ n) (hn1 : n ≤ 9) : ∀ y ∈ flushL P text ++ groupOf n, goodP y k := by
  intro y hy
  rcases List.mem_append.1 hy with hy | hy
  · unfold flushL at hy
    split at hy
    · exact h y hy
    · rcases List.mem_append.1 hy with hy | hy
      · exact h y hy
      · simp only [List.mem_singleton] at hy
        subst hy
        exact ⟨by unfold IsI; omega, hB, hl⟩
  · unfold groupOf at hy
    split at hy
    · simp only [List.mem_singleton] at hy
      subst hy
      exact ⟨by unfold IsI; omega, isB_nil, Nat.zero_le _⟩
    · simp at hy

/-- The round's relation. -/
def ParseInv (w : World) (l : List Mk) (i : Value) (wr : World) : Prop :=
  ∃ (k : Nat) (L : List PcV) (text : List Int), k ≤ l.length ∧ i = .int .i64 k ∧ St wr (w.heap.size + 2) w.heap.size (w.heap.size + 1) L text ∧ Below w.heap.size w wr ∧
    parseR (l.drop k) (plainP L) text = parseR l [] [] ∧ L.length ≤ 2 * k ∧ text.length ≤ k ∧ IsB text ∧ ∀ y ∈ plainP L, goodP y k
def ParsePost (w : World) (l : List Mk) (e : Ending) (w' : World) : Prop :=
  Below w.heap.size w w' ∧ match parseR l [] [] with
  | some q => ∃ v L, e = .returned (.tuple #[v, .int .i64 0, .int .i64 0]) ∧ OwnPs w' (w.heap.size + 2) v L ∧ plainP L = q ∧ L.length ≤ 2 * l.length + 2 ∧ ∀ y ∈ q, goodP y l.length
  | none => e = .returned (.tuple #[.slice none 0 0, .int .i64 61, .int .i64 ((l.length : Int) - 1)])
theorem post_some {w w' : World} {l : List Mk} {q : List Pc} {v : Value} {L : List PcV} {e : Ending} (h : parseR l [] [] = some q) (hb : Below w.heap.size w w') (he : e = .returned (.tuple #[v, .int .i64 0, .int .i64 0])) (ho : OwnPs w' (w.heap.size + 2) v L)
    (hp : plainP L = q) (hl : L.length ≤ 2 * l.length + 2) (hg : ∀ y ∈ q, goodP y l.length) : ParsePost w l e w' := by
  unfold ParsePost; rw [h]; exact ⟨hb, v, L, he, ho, hp, hl, hg⟩
theorem post_none {w w' : World} {l : List Mk} {e : Ending} (h : parseR l [] [] = none) (hb : Below w.heap.size w w') (he : e = .returned (.tuple #[.slice none 0 0, .int .i64 61, .int .i64 ((l.length : Int) - 1)])) : ParsePost w l e w' := by
  unfold ParsePost; rw [h]; exact ⟨hb, he⟩

theorem post_none2 {w w' : World} {l : List Mk} {e : Ending} {z : Int} (h : parseR l [] [] = none) (hb : Below w.heap.size w w') (hz : (l.length : Int) - 1 = z) (he : e = .returned (.tuple #[.slice none 0 0, .int .i64 61, .int .i64 z])) : ParsePost w l e w' :=
  post_none h hb (by rw [hz]; exact he)
theorem any_shape {w : World} {base : Nat} {v : Value} {l : List Int} (h : OwnB w base v l) : ∃ a n c, v = .slice a n c := by
  obtain ⟨a, c, h⟩ := h.shape
  exact ⟨a, _, c, h⟩

theorem st_start (w : World) : St ((w.alloc (.cells #[.slice none 0 0] 75)).alloc (.cells #[.slice none 0 0] 48)) (w.heap.size + 2) w.heap.size (w.heap.size + 1) [] [] := by
  refine ⟨.slice none 0 0, .slice none 0 0, ?_, ?_, OwnPs.nil _ _, OwnB.nil _ _, apart_none rfl, fun x h => by simp at h, by omega, by omega, by omega, by simp [World.size_alloc]⟩
  · rw [Below.heap_alloc _ _ _ (by simp [World.size_alloc])]; exact heap_alloc_new w _
  · have := heap_alloc_new (w.alloc (.cells #[.slice none 0 0] 75)) (.cells #[.slice none 0 0] 48)
    rwa [World.size_alloc] at this

/-- A byte more in the text. -/
theorem st_text {w w' : World} {base go gt : Nat} {L : List PcV} {text t2 : List Int} {vo vt vt' : Value} (h1 : w.heap[go]? = some (.cells #[vo] 75 (0, 0))) (h2 : w.heap[gt]? = some (.cells #[vt] 48 (0, 0)))
    (h3 : OwnPs w base vo L) (h4 : OwnB w base vt text) (h5 : Apart vt vo) (h6 : ∀ x ∈ L, Apart vt x.2.1) (h7 : go < base) (h8 : gt < base) (h9 : go ≠ gt) (h10 : base ≤ w.heap.size) (hA : AppPost w w' base vt vt') (hown : OwnB w' base vt' t2) :
    St (w'.setCell ⟨gt, 0, none⟩ vt') base go gt L t2 ∧ Kept w (w'.setCell ⟨gt, 0, none⟩ vt') go gt base ∧ w'.cell? ⟨gt, 0, none⟩ = some vt ∧ w'.frozen? ⟨gt, 0, none⟩ = false := by
  have g1 : w'.heap[go]? = some (.cells #[vo] 75 (0, 0)) := by rw [app_block hA h4 h7 h10]; exact h1
  have g2 : w'.heap[gt]? = some (.cells #[vt] 48 (0, 0)) := by rw [app_block hA h4 h8 h10]; exact h2
  obtain ⟨k1, k2, k3⟩ := h3.other hA h5 h6
  refine ⟨⟨vo, vt', ?_, one_setCell g2, k1.setBelow (a := ⟨gt, 0, none⟩) h8 _, hown.setBelow (a := ⟨gt, 0, none⟩) h8 _, k2, k3, h7, h8, h9, ?_⟩, ?_, cell_of_one g2, free_of_one g2⟩
  · rw [heap_setCell_other _ _ _ _ (by first | exact h9 | exact fun e => h9 e.symm)]; exact g1
  · rw [setCell_size]; exact Nat.le_trans h10 hA.size
  · exact kept_trans (kept_app hA) (kept_set _ (.inr rfl) _)

/-- append(out, y), one byte, at a step of a region that draws its order. -/
theorem step_append_b1 {ops : Array Oper} {o : Oper} {a : Act} {w : World} {K : Act → World → Prop} {Q : Exit → Act → World → Prop} {E : Prop} (hgd : o.guard = none) (s x : Operand)
    (ho : o.op = .call { callee := .builtin .append, args := #[s, x], argTypes := #[48, 48] })
    (base : Nat) (v : Value) (xs : List Int) (y : Int) (hs : a.eval s = v) (hown : OwnB w base v xs) (hx : a.eval x = .slice (some ⟨w.heap.size, 0, none⟩) 1 1) (hsum : xs.length + 1 ≤ 140737488355328) (hbase : base ≤ w.heap.size)
    (h : ∀ g cap w', OwnB w' base (.slice (some ⟨g, 0, none⟩) (xs.length + 1) cap) (xs ++ [y]) → AppPost w w' base v (.slice (some ⟨g, 0, none⟩) (xs.length + 1) cap) → K (a.put o.dst (.slice (some ⟨g, 0, none⟩) (xs.length + 1) cap)) w') :
    if Region.wanted o (yielded ops a.tmps) = true then Oper.wp Tryd.prog o a (w.alloc (.cells #[.int .u8 y] 5)).drew K Q else E := by
  obtain ⟨i0, hi, hz0, hz1, hz2⟩ := info_parts infoB
  refine step_append_lies _ hgd s x 48 ho base 5 i0 (.int .u8 0) 1 1 Tryd.underlying48 hi hz0 hz1 hz2 rfl (by decide) v xs.length (xs.map (Value.int .u8)) hs (World.ownsRow.alloc hown _) ⟨w.heap.size, 0, none⟩ 1 1 [.int .u8 y] hx rfl (one_cell _ _) (one_one _) (by decide) (by unfold maxLen; omega) (by omega) (by show base ≤ (w.alloc _).heap.size; rw [World.size_alloc]; omega) _ rfl ?_
  intro g cap w' hown' hgrow hat _
  exact h g cap w' (own_step hown') (app_post hown (Nat.le_refl _) hbase ((Below.refl _ w).alloc (Nat.le_refl _) _).drew hgrow (hat.imp Eq.symm (congrArg some)))

/-- A round's end behind a byte. -/
theorem inv_byte {w wr w' : World} {l : List Mk} {k j : Nat} {L : List PcV} {text : List Int} {y : Int} {i : Value} (hj : j ≤ l.length) (hi : i = .int .i64 j) (hkj : k < j) (rb : Below w.heap.size w wr) (hS : St w' (w.heap.size + 2) w.heap.size (w.heap.size + 1) L (text ++ [y]))
    (hK : Kept wr w' w.heap.size (w.heap.size + 1) (w.heap.size + 2)) (hp : parseR (l.drop j) (plainP L) (text ++ [y]) = parseR l [] []) (hLk : L.length ≤ 2 * k) (htk : text.length ≤ k) (hB : IsB text) (hy0 : 0 ≤ y) (hy1 : y ≤ 255) (hG : ∀ z ∈ plainP L, goodP z k) : ParseInv w l i w' :=
  ⟨j, L, text ++ [y], hj, hi, hS, hK _ _ rb (Nat.le_refl _) (by omega) (by omega), hp, by omega, by rw [List.length_append]; simp; omega, isB_snoc _ _ hB hy0 hy1, goods_more hG (by omega)⟩
theorem inv_group {w wr w' : World} {l : List Mk} {k j : Nat} {L L' : List PcV} {text : List Int} {n : Int} {i : Value} (hj : j ≤ l.length) (hi : i = .int .i64 j) (hkj : k < j) (rb : Below w.heap.size w wr) (hS : St w' (w.heap.size + 2) w.heap.size (w.heap.size + 1) L' [])
    (hK : Kept wr w' w.heap.size (w.heap.size + 1) (w.heap.size + 2)) (hP : plainP L' = flushL (plainP L) text ++ groupOf n) (hn0 : 0 ≤ n) (hn1 : n ≤ 9) (hp : parseR (l.drop j) (flushL (plainP L) text ++ [(n, [])]) [] = parseR l [] []) (hLL : L'.length ≤ L.length + 2)
    (hLk : L.length ≤ 2 * k) (htk : text.length ≤ k) (hB : IsB text) (hG : ∀ z ∈ plainP L, goodP z k) : ParseInv w l i w' := by
  refine ⟨j, L', [], hj, hi, hS, hK _ _ rb (Nat.le_refl _) (by omega) (by omega), ?_, by omega, Nat.zero_le _, isB_nil, ?_⟩
  · rw [hP]; unfold groupOf; rw [if_pos hn0]; exact hp
  · rw [hP]; exact goods_more (goods_flush hG hB htk (by omega) hn1) (by omega)

set_option maxHeartbeats 4000000 in
set_option maxRecDepth 100000 in
theorem parse_any (w : World) (a : Option Addr) (n c : Nat) (l : List Mk) (hb : SM w (.slice a n c) l) (hn : n ≤ 2147483648) :
    Calls Tryd.prog 30 #[.slice a n c] w (ParsePost w l) := by
  obtain ⟨hl, _⟩ := hb.len
  have HL := Lib.hid hl
  clear hl
  have hst := Lib.hid (st_start w)
  go_enter Tryd.func30, Tryd.ntmps30
  go_wp2_with fail
  go_loopw [8] (fun i wr => ParseInv w l i wr) (fun i _ => n - (intOf i).toNat)
  case atStart => exact ⟨0, [], [], Nat.zero_le _, rfl, hst.out, ((Below.refl _ _).alloc (Nat.le_refl _) _).alloc (by simp [World.size_alloc]) _, rfl, Nat.le_refl _, Nat.le_refl _, isB_nil, fun y h => by simp [plainP] at h⟩
  case round =>
    obtain ⟨k, L, text, hk, rfl, hS, rb, hp, hLk, htk, hB, hG⟩ := hrel
    rw [HL.out] at hk
    have hbs := rb.size
    have HS := Lib.hid hS
    have HP := Lib.hid hp
    have HB := Lib.hid hB
    have HG := Lib.hid hG
    clear hS hp hB hG hst
    by_cases hlt : k < n
    · have s1 := hb.below rb
      obtain ⟨b, o, rfl, hc⟩ := s1.read k hlt
      obtain ⟨c1, c2⟩ := hc k hlt
      have hx := s1.1 k
      have hdr := drop_consG l (0, false) k (by rw [HL.out]; exact hlt)
      have HC := Lib.hid hc
      have HSM := Lib.hid s1
      clear hc s1
      generalize l[k]?.getD (0, false) = m at c1 c2 hx hdr
      obtain ⟨x, p⟩ := m
      simp only at c1 c2 hx
      have HDR := Lib.hid hdr
      clear hdr
      by_cases h1 : x = 38 ∧ p = false
      · obtain ⟨rfl, rfl⟩ := h1
        have HQ : Hid (parseR (l.drop (k + 1)) (flushL (plainP L) text ++ [(0, [])]) [] = parseR l [] []) := by
          have := HP.out
          rw [HDR.out, parse_amp] at this
          exact Lib.hid this
        have HGr := Lib.hid (group_any wr (w.heap.size + 2) w.heap.size (w.heap.size + 1) L text HS.out (by omega) 0 (by omega) (by omega) (by omega))
        clear HC HP HS
        go_wp2_with fail
        refine HGr.out.mono ?_
        rintro e w1 ⟨rfl, L', hS', hP', hK', hs', hl', -⟩
        have HI := Lib.hid (fun i hi => inv_group (i := i) (by rw [HL.out]; exact hlt) hi (Nat.lt_succ_self k) rb hS' hK' hP' (by omega) (by omega) HQ.out hl' hLk htk HB.out HG.out)
        clear HGr hS' hP' hK' hs' c1 c2
        go_wp2_with fail
        go_roundw
        case rel => exact HI.out _ (by go_num)
        case measure => simp [intOf]; omega
      · by_cases h2 : x = 92 ∧ p = false
        · obtain ⟨rfl, rfl⟩ := h2
          clear h1
          by_cases hk1 : k + 1 < n
          · have hdr := drop_consG l (0, false) (k + 1) (by rw [HL.out]; exact hk1)
            obtain ⟨d1, d2⟩ := HC.out (k + 1) hk1
            have hy := HSM.out.1 (k + 1)
            generalize l[k + 1]?.getD (0, false) = m at d1 d2 hy hdr
            obtain ⟨y, q⟩ := m
            simp only at d1 d2 hy
            have HDR2 := Lib.hid hdr
            clear hdr HC HSM
            have hq6 : (((k : Int) + 1) == (n : Int)) = false := by rw [beq_eq_false_iff_ne]; omega
            have d1' : wr.cell? ⟨b, o + k * 2 + 2, none⟩ = some (.int .u8 y) := by rw [← d1]; congr 2; omega
            have d2' : wr.cell? ⟨b, o + k * 2 + 2 + 1, none⟩ = some (.bool q) := by rw [← d2]; congr 2; omega
            by_cases hg : isGrp (y, q) = true
            · have HQ : Hid (parseR (l.drop (k + 2)) (flushL (plainP L) text ++ [(y - 48, [])]) [] = parseR l [] []) := by
                have := HP.out
                rw [HDR.out, HDR2.out, parse_grp _ _ _ _ hg] at this
                exact Lib.hid this
              unfold isGrp at hg
              simp at hg
              obtain ⟨rfl, hy1, hy2⟩ := hg
              have HGr := Lib.hid (group_any wr (w.heap.size + 2) w.heap.size (w.heap.size + 1) L text HS.out (by omega) (y - 48) (by omega) (by omega) (by omega))
              have hw1 : IntKind.u8.wrap (y - 48) = y - 48 := IntWalk.u8_in _ (by omega)
              have hw2 : IntKind.i8.wrap (y - 48) = y - 48 := IntWalk.i8_in _ (by omega)
              clear HP HS HDR HDR2
              go_wp2_with fail
              refine HGr.out.mono ?_
              rintro e w1 ⟨rfl, L', hS', hP', hK', hs', hl', -⟩
              have HI := Lib.hid (fun i hi => inv_group (i := i) (j := k + 2) (by rw [HL.out]; exact hk1) hi (by omega) rb hS' hK' hP' (by omega) (by omega) HQ.out hl' hLk htk HB.out HG.out)
              clear HGr hS' hP' hK' hs' c1 c2 d1 d2 d1' d2'
              go_wp2_with fail
              go_roundw
              case rel => exact HI.out _ (by go_num)
              case measure => simp [intOf]; omega
            · have hg' : isGrp (y, q) = false := by simpa using hg
              have HQ : Hid (parseR (l.drop (k + 2)) (plainP L) (text ++ [escB (y, q)]) = parseR l [] []) := by
                have := HP.out
                rw [HDR.out, HDR2.out, parse_esc _ _ _ _ hg'] at this
                exact Lib.hid this
              obtain ⟨vo, vt, g1, g2, g3, g4, g5, g6, -, -, -, g10⟩ := HS.out
              obtain ⟨ab, cb, rfl⟩ := g4.shape
              have e2 := cell_of_one g2
              have G1 := Lib.hid g1
              have G2 := Lib.hid g2
              have G3 := Lib.hid g3
              have G5 := Lib.hid g5
              have G6 := Lib.hid g6
              clear g1 g2 g3 g5 g6 HP HS HDR HDR2 hg
              by_cases hesc : q = false ∧ y = 110
              · obtain ⟨rfl, rfl⟩ := hesc
                clear hg'
                have hE : escB ((110 : Int), false) = 10 := rfl
                rw [hE] at HQ
                clear hE
                go_wp2_with (at_builtin; refine append_b1 rfl (.tmp 85) (.tmp 86) rfl (w.heap.size + 2) _ text 10 rfl g4 rfl (by omega) g10 ?_)
                intro v' w1 ho hA
                obtain ⟨av, nv, cv, rfl⟩ := any_shape ho
                obtain ⟨S1, K1, e3, e4⟩ := st_text G1.out G2.out G3.out g4 G5.out G6.out (by omega) (by omega) (by omega) g10 hA ho
                have HI := Lib.hid (fun i hi => inv_byte (i := i) (j := k + 2) (by rw [HL.out]; exact hk1) hi (by omega) rb S1 K1 HQ.out hLk htk HB.out (by omega) (by omega) HG.out)
                clear S1 K1 hA ho g4 g10 c1 c2 d1 d2 d1' d2' e2
                go_wp2_with fail
                go_roundw
                case rel => exact HI.out _ (by go_num)
                case measure => simp [intOf]; omega
              · have three : q = true ∨ (q = false ∧ y < 49 ∧ (y == 110) = false) ∨ (q = false ∧ 57 < y ∧ (y == 110) = false) := by
                  cases q with
                  | true => exact .inl rfl
                  | false =>
                    have hne : (y == 110) = false := beq_eq_false_iff_ne.2 (fun e => hesc ⟨rfl, e⟩)
                    unfold isGrp at hg'
                    simp at hg'
                    by_cases h49 : y < 49
                    · exact .inr (.inl ⟨rfl, h49, hne⟩)
                    · exact .inr (.inr ⟨rfl, by omega, hne⟩)
                have hE : escB (y, q) = y := by
                  unfold escB
                  rcases three with rfl | ⟨rfl, _, h⟩ | ⟨rfl, _, h⟩
                  · simp
                  · simp only [h]; simp
                  · simp only [h]; simp
                rw [hE] at HQ
                clear hE hesc hg'
                rcases three with rfl | ⟨rfl, h3, h4⟩ | ⟨rfl, h3, h4⟩
                all_goals
                  go_wp2_with (at_builtin; refine append_b1 rfl (.tmp 50) (.tmp 52) rfl (w.heap.size + 2) _ text y rfl g4 rfl (by omega) g10 ?_)
                  intro v' w1 ho hA
                  obtain ⟨av, nv, cv, rfl⟩ := any_shape ho
                  obtain ⟨S1, K1, e3, e4⟩ := st_text G1.out G2.out G3.out g4 G5.out G6.out (by omega) (by omega) (by omega) g10 hA ho
                  have HI := Lib.hid (fun i hi => inv_byte (i := i) (j := k + 2) (by rw [HL.out]; exact hk1) hi (by omega) rb S1 K1 HQ.out hLk htk HB.out (by omega) (by omega) HG.out)
                  clear S1 K1 hA ho g4 g10 c1 c2 d1 d2 d1' d2' e2
                  go_wp2_with fail
                  go_roundw
                  case rel => exact HI.out _ (by go_num)
                  case measure => simp [intOf]; omega
          · have HO : Hid (parseR l [] [] = none) := by
              have := HP.out
              rw [HDR.out, List.drop_of_length_le (l := l) (i := k + 1) (by rw [HL.out]; omega), parse_end] at this
              exact Lib.hid this.symm
            have hq6 : (((k : Int) + 1) == (n : Int)) = true := by rw [beq_iff_eq]; omega
            clear HP HDR HS HC HSM
            go_wp2_with fail
            go_ret3
            exact post_none2 HO.out rb (by rw [HL.out]; omega) rfl
        · have h3 : (x, p) ≠ ((92 : Int), false) := fun e => h2 (by simpa using e)
          have h4 : (x, p) ≠ ((38 : Int), false) := fun e => h1 (by simpa using e)
          have HQ : Hid (parseR (l.drop (k + 1)) (plainP L) (text ++ [x]) = parseR l [] []) := by
            have := HP.out
            rw [HDR.out, parse_byte _ _ _ _ h4 h3] at this
            exact Lib.hid this
          obtain ⟨vo, vt, g1, g2, g3, g4, g5, g6, -, -, -, g10⟩ := HS.out
          obtain ⟨ab, cb, rfl⟩ := g4.shape
          have e2 := cell_of_one g2
          have hgt := World.block_lt_of_cell? wr _ e2
          have e2a : (wr.alloc (.cells #[.int .u8 x] 5)).drew.cell? ⟨w.heap.size + 1, 0, none⟩ = some (.slice ab text.length cb) := (((Below.refl wr.heap.size wr).alloc (Nat.le_refl _) (.cells #[.int .u8 x] 5)).cell (p := ⟨w.heap.size + 1, 0, none⟩) hgt).trans e2
          have G1 := Lib.hid g1
          have G2 := Lib.hid g2
          have G3 := Lib.hid g3
          have G5 := Lib.hid g5
          have G6 := Lib.hid g6
          have hq1 : p = false → (x == 38) = false := fun e => beq_eq_false_iff_ne.2 fun h => h1 ⟨h, e⟩
          have hq2 : p = false → (x == 92) = false := fun e => beq_eq_false_iff_ne.2 fun h => h2 ⟨h, e⟩
          clear g1 g2 g3 g5 g6 HP HS HDR h1 h2 h3 h4 HC HSM
          have two : p = true ∨ p = false := by cases p <;> simp
          rcases two with rfl | rfl
          all_goals
            first | (have hq1 := hq1 rfl; have hq2 := hq2 rfl) | clear hq1 hq2
            go_wp2_with fail
            go_region_law ((refine step_append_b1 (by rfl) _ _ (by rfl) (w.heap.size + 2) (.slice ab text.length cb) text x (by rfl) g4 (by rfl) (by omega) g10 ?_; intro g cap' wn ho1 hA; have hst := st_text G1.out G2.out G3.out g4 G5.out G6.out (by omega) (by omega) (by omega) g10 hA ho1; have hce := hst.2.2.1; have hfr := hst.2.2.2))
            all_goals
              have HI := Lib.hid (fun i hi => inv_byte (i := i) (j := k + 1) (by rw [HL.out]; exact hlt) hi (by omega) rb hst.1 hst.2.1 HQ.out hLk htk HB.out (by omega) (by omega) HG.out)
              clear hst hce hfr hA ho1 g4 g10 c1 c2 e2 e2a
              go_wp2_with fail
              go_roundw
              case rel => exact HI.out _ (by go_num)
              case measure => simp [intOf]; omega
    · have e : l.drop k = [] := List.drop_of_length_le (by rw [HL.out]; omega)
      have HQ : Hid (parseR l [] [] = some (flushL (plainP L) text)) := by
        have := HP.out
        rw [e, parse_nil] at this
        exact Lib.hid this.symm
      clear e HP
      have HGr := Lib.hid (group_any wr (w.heap.size + 2) w.heap.size (w.heap.size + 1) L text HS.out (by omega) (-1) (by omega) (by omega) (by omega))
      clear HS
      go_wp2_with fail
      refine HGr.out.mono ?_
      rintro e w1 ⟨rfl, L', hS', hP', hK', hs', hl', -⟩
      obtain ⟨vo, vt, g1, g2, g3, -⟩ := hS'
      obtain ⟨av, cv, rfl⟩ := own_shape g3.own
      have e1 := cell_of_one g1
      have HR := Lib.hid (fun e he => post_some (e := e) HQ.out (hK' _ _ rb (Nat.le_refl _) (by omega) (by omega)) he g3 (by rw [hP']; unfold groupOf; rw [if_neg (by omega), List.append_nil]) (by rw [HL.out]; omega) (by
        have := goods_more (n := l.length) (goods_flush (n := -1) HG.out HB.out htk (by omega) (by omega)) (by rw [HL.out]; omega)
        unfold groupOf at this
        rw [if_neg (by omega), List.append_nil] at this
        exact this))
      clear HGr hP' hK' hs' g1 g2 g3
      go_wp2_with fail
      go_ret3
      exact HR.out _ rfl
end Go.Proofs.YtdbkoephkdfbfaaDoor
