/-
  galleylaw19.WordsTexts: its walk.
-/
import Derived.Test.YtadjonggmbndmaaWorks
import Derived.Test.YtadjonggmbndmaaText2
import Derived.Test.YtadjonggmbndmaaTextMath
import Derived.Test.YtadjonggmbndmaaLists
import Derived.Test.YtadjonggmbndmaaBytes2
import Derived.Test.YtadjonggmbndmaaEq
import Derived.Deep.CutBlock
import Derived.Deep.DeepCutAuto
namespace Go.Proofs.Ytadjonggmbndmaa
open Go.RowKit

theorem wrap_blank (k : Nat) (r : Int) (h : r = 0 ∨ r = 1) (_hk : (k : Int) % 2 = r) : IntKind.u8.wrap (32 - 23 * r) = 32 - 23 * r := by
  rcases h with rfl | rfl <;> decide
def SizeInv (r : List (List Int)) (m : Nat) (v : Value) : Prop := ∃ N : Int, v = .int .i64 N ∧ 0 ≤ N ∧ N ≤ 140737505128449 ∧ (N ≤ 16777216 → N = m + sumTo r r.length)
def BlanksInv (w : World) (v : Value) (wr : World) : Prop := ∃ z : List Int, OwnB wr w.heap.size v z ∧ (∀ c ∈ z, blB c = true) ∧ z.length ≤ 9 ∧ Below w.heap.size w wr
def TwoInv (w : World) (z u p : List Int) (v10 v12 : Value) (wr : World) : Prop :=
  OwnB wr w.heap.size v10 (z ++ 92 :: 10 :: (escL u ++ p)) ∧ OwnB wr w.heap.size v12 u ∧ Apart v10 v12 ∧ Below w.heap.size w wr

theorem conl (z u p : List Int) (h : z.length ≤ 9) : (z ++ 92 :: 10 :: (escL u ++ p)).length ≤ 11 + 2 * u.length + p.length := by
  have := escL_len u
  rw [List.length_append, List.length_cons, List.length_cons, List.length_append]
  omega
theorem RB.isB {w : World} {v : Value} {r : List (List Int)} (h : RB w v r) (i : Nat) : IsB (r[i]?.getD []) := by
  obtain ⟨_, _, _, _, _, _, h4⟩ := h
  by_cases hi : i < r.length
  · rcases h4 with rfl | ⟨_, _, _, hc⟩
    · simp at hi
    · obtain ⟨_, _, _, _, g2, _⟩ := hc i hi
      exact g2.1
  · rw [List.getElem?_eq_none (by omega)]; exact isB_nil
theorem jnTo_isB (r : List (List Int)) (h : ∀ i : Nat, IsB (r[i]?.getD [])) : ∀ k, IsB (jnTo r k)
  | 0 => isB_nil
  | k + 1 => by
    rw [jnTo]
    refine isB_append _ _ (isB_append _ _ (jnTo_isB r h k) ?_) (h k)
    unfold sepL
    split
    · exact isB_one 10 (by omega) (by omega)
    · exact isB_nil
theorem escL_isB (l : List Int) (h : IsB l) : IsB (escL l) := by
  induction l with
  | nil => exact isB_nil
  | cons b t ih =>
    have h0 := h 0
    simp only [List.getElem?_cons_zero, Option.getD_some] at h0
    have ht : IsB t := fun i => by have := h (i + 1); simpa using this
    rw [escL]
    split
    · exact isB_append [92, b] _ (isB_append [92] [b] (isB_one 92 (by omega) (by omega)) (isB_one b h0.1 h0.2)) (ih ht)
    · exact isB_append [b] _ (isB_one b h0.1 h0.2) (ih ht)
theorem bl_isB (z : List Int) (h : ∀ c ∈ z, blB c = true) : IsB z := by
  intro i
  by_cases hi : i < z.length
  · have := h z[i] (List.getElem_mem hi)
    simp only [blB, decide_eq_true_eq] at this
    simp [hi]; omega
  · simp [hi]
theorem con_end (z u b : List Int) : (z ++ 92 :: 10 :: (escL u ++ []) ++ [10]) ++ b = z ++ 92 :: 10 :: (escL u ++ 10 :: b) := by simp
theorem con_len (z u b : List Int) : (z ++ 92 :: 10 :: (escL u ++ 10 :: b)).length = z.length + 2 + (escL u).length + 1 + b.length := by
  rw [List.length_append, List.length_cons, List.length_cons, List.length_append, List.length_cons]; omega
theorem con_len0 (z u : List Int) : (z ++ 92 :: 10 :: (escL u ++ [])).length = z.length + 2 + (escL u).length := by
  rw [List.length_append, List.length_cons, List.length_cons, List.append_nil]; omega
theorem con_isB (z u p : List Int) (hz : IsB z) (hu : IsB u) (hp : IsB p) : IsB (z ++ 92 :: 10 :: (escL u ++ p)) :=
  isB_append z _ hz (isB_append [92, 10] _ (isB_append [92] [10] (isB_one 92 (by omega) (by omega)) (isB_one 10 (by omega) (by omega))) (isB_append _ _ (escL_isB u hu) hp))
def preL (x : Int) : List Int := if escB x then [92] else []
theorem preL_len (x : Int) : (preL x).length ≤ 1 := by unfold preL; split <;> simp
theorem con_byte (z u : List Int) (x : Int) : z ++ 92 :: 10 :: (escL u ++ preL x) ++ [x] = z ++ 92 :: 10 :: (escL (u ++ [x]) ++ []) := by
  rw [escL_append, escL_one, List.append_nil]
  unfold preL
  simp
theorem con_sep (z u : List Int) (k : Nat) (hk : 0 < k) : z ++ 92 :: 10 :: (escL u ++ []) ++ [92, 10] = z ++ 92 :: 10 :: (escL (u ++ sepL k) ++ []) := by
  rw [escL_append, escL_sep, if_pos hk]
  simp
theorem con_pre (z u : List Int) : z ++ 92 :: 10 :: (escL u ++ []) ++ [92] = z ++ 92 :: 10 :: (escL u ++ [92]) := by simp

set_option maxHeartbeats 4000000 in
set_option maxRecDepth 100000 in
theorem texts_walk (w : World) (blanks : Int) (a1 : Option Addr) (n1 c1 : Nat) (r : List (List Int)) (s1 : RB w (.slice a1 n1 c1) r) (a2 : Option Addr) (n2 c2 : Nat) (b : List Int) (s2 : SB w (.slice a2 n2 c2) b) (hN2 : a2 = none → c2 = 0) :
    Calls Try.prog 7 #[.int .i64 blanks, .slice a1 n1 c1, .slice a2 n2 c2] w fun e w' => e = .returned (.bool true) ∧ Below w.heap.size w w' := by
  obtain ⟨hrl, hrl2, -, -⟩ := s1.len
  obtain ⟨hbl, hbl2⟩ := s2.len
  have HRL := Lib.hid hrl
  have HBL := Lib.hid hbl
  have HN2 := Lib.hid hN2
  clear hrl hbl hN2
  go_enter Try.func7, Try.ntmps7
  go_wp2_with fail
  refine (works_any w).mono ?_
  rintro e w1 ⟨rfl, hb1⟩
  have hw01 := hb1.size
  go_upto_block 0 with fail
  go_cut [8] (fun v wx => SizeInv r n2 v ∧ w1 = wx)
  case first =>
    go_wp2_with fail
    go_loop [8, 9] (fun v i => ∃ k : Nat, k ≤ n1 ∧ i = .int .i64 k ∧ ∃ N : Int, v = .int .i64 N ∧ 0 ≤ N ∧ N ≤ 140737505128449 ∧ (N ≤ 16777216 → N = n2 + sumTo r k) ∧ (N ≤ 140737488351232 ∨ 16777216 < N)) (fun _ i => n1 - (intOf i).toNat)
    case atStart => exact ⟨0, Nat.zero_le _, rfl, n2, rfl, by omega, by omega, fun _ => by simp [sumTo], by omega⟩
    case round =>
      obtain ⟨k, hk, rfl, N, rfl, hN0, hN1, hNs, hNo⟩ := hrel
      have HNS := Lib.hid hNs
      clear hNs
      have hfin : 16777216 < N ∨ k = n1 → SizeInv r n2 (.int .i64 N) := fun h => ⟨N, rfl, hN0, hN1, fun h2 => by
        rcases h with h | h
        · omega
        · rw [HNS.out h2, HRL.out, h]⟩
      by_cases hlt : k < n1
      · by_cases hN : N ≤ 16777216
        · obtain ⟨bb, o, rfl, hc⟩ := (s1.below hb1).read k hlt
          obtain ⟨ad, m, cc, hck, hsk, -, -⟩ := hc k hlt
          obtain ⟨hm1, hm2⟩ := hsk.len
          have hsm : Hid (N + 1 + m ≤ 16777216 → N + 1 + m = n2 + sumTo r (k + 1)) := fun _ => by
            have := HNS.out hN
            rw [sumTo, hm1]; omega
          clear hc hsk hfin hm1
          go_wp2_with fail
          go_round
          case rel => exact ⟨k + 1, by omega, by go_num, N + 1 + m, rfl, by omega, by omega, hsm.out, by omega⟩
          case measure => simp [intOf]; omega
        · have HF := Lib.hid (hfin (.inl (by omega)))
          clear hfin
          go_wp2_with fail
          go_meet
          case rel => exact ⟨HF.out, rfl⟩
      · have HF := Lib.hid (hfin (.inr (by omega)))
        clear hfin
        go_wp2_with fail
        go_meet
        case rel => exact ⟨HF.out, rfl⟩
  case rest =>
    obtain ⟨⟨N, rfl, hN0, hN1, hNs⟩, rfl⟩ := hcut
    have HNS := Lib.hid hNs
    clear hNs
    by_cases hlong : 16777216 < N
    · go_wp2_with fail
      go_ret
      exact ⟨rfl, hb1⟩
    by_cases hr0 : n1 = 0
    · have hq : ((n1 : Int) == 0) = true := by rw [beq_iff_eq]; omega
      have H0 := Lib.hid hr0
      clear hr0
      go_wp2_with fail
      go_ret
      exact ⟨rfl, hb1⟩
    have hq : ((n1 : Int) == 0) = false := by rw [beq_eq_false_iff_ne]; omega
    have hsum : n2 + sumTo r r.length ≤ 16777216 := by have := HNS.out (by omega); omega
    clear HNS
    go_upto_block 2 with fail
    go_cut [10] (fun v wx => BlanksInv w1 v wx)
    case first =>
      go_wp2_with fail
      go_loopw [10, 11] (fun v i wr => ∃ k : Nat, k ≤ 9 ∧ i = .int .i64 k ∧ ∃ z : List Int, OwnB wr w1.heap.size v z ∧ (∀ c ∈ z, blB c = true) ∧ z.length ≤ k ∧ Below w1.heap.size w1 wr) (fun _ i _ => 9 - (intOf i).toNat)
      case atStart => exact ⟨0, by omega, rfl, [], OwnB.empty w1, by simp, by simp, (Below.refl _ w1).alloc (Nat.le_refl _) _⟩
      case round =>
        obtain ⟨k, hk, rfl, z, ho, hz, hzl, rb⟩ := hrel
        have hbs := rb.size
        have HZ := Lib.hid hz
        clear hz
        by_cases hc : (k : Int) < blanks
        · by_cases hc2 : (k : Int) < 9
          · obtain ⟨y, hy, hy2⟩ : ∃ y : Int, (k : Int) % 2 = y ∧ (y = 0 ∨ y = 1) := ⟨_, rfl, by omega⟩
            have hw := wrap_blank k y hy2 hy
            have hbl : Hid (blB (32 - 23 * y) = true) := by
              show blB (32 - 23 * y) = true
              rcases hy2 with rfl | rfl <;> rfl
            go_wp2_with (at_builtin; refine append_b1 rfl (.tmp 59) (.tmp 65) rfl w1.heap.size _ z (32 - 23 * y) rfl ho rfl (by omega) hbs ?_)
            intro v' w2 ho' hA
            have hb2 := hA.bel _ _ rb (Nat.le_refl _)
            have hl' : (z ++ [32 - 23 * y]).length ≤ k + 1 := by rw [List.length_append]; simp; omega
            have hz' : Hid (∀ c ∈ z ++ [32 - 23 * y], blB c = true) := fun c hc => by
              rw [List.mem_append, List.mem_singleton] at hc
              rcases hc with hc | rfl
              · exact HZ.out c hc
              · exact hbl.out
            have HL := Lib.hid hl'
            clear ho rb hA hw hl' hy hy2
            go_wp2_with fail
            go_roundw
            case rel => exact ⟨k + 1, by omega, by go_num, _, ho', hz'.out, HL.out, hb2⟩
            case measure => simp [intOf]; omega
          · go_wp2_with fail
            go_meet
            case rel => exact ⟨z, ho, HZ.out, by omega, rb⟩
        · go_wp2_with fail
          go_meet
          case rel => exact ⟨z, ho, HZ.out, by omega, rb⟩
    case rest =>
      obtain ⟨z, ho, hz, hzl, rb⟩ := hcut
      have HZ := Lib.hid hz
      have hbs := rb.size
      clear hz hq
      go_wp2_with (at_builtin; refine append_bl rfl (.tmp 67) (.tmp 68) rfl w1.heap.size _ z [92, 10] _ 2 rfl rfl rfl ho rfl (by omega) hbs ?_)
      intro v' w2 ho' hA
      have rb2 := hA.bel _ _ rb (Nat.le_refl _)
      have hT : TwoInv w1 z (jnTo r 0) [] v' (.slice none 0 0) w2 := ⟨ho', OwnB.nil _ _, fun k _ h => by simp [Value.ownBlock] at h, rb2⟩
      clear ho rb hA ho' rb2 hbs
      go_wp2_with fail
      go_loopw [10, 12, 13] (fun v10 v12 i wr => ∃ k : Nat, k ≤ n1 ∧ i = .int .i64 k ∧ TwoInv w1 z (jnTo r k) [] v10 v12 wr) (fun _ _ i _ => n1 - (intOf i).toNat)
      case atStart => exact ⟨0, Nat.zero_le _, rfl, hT⟩
      case round =>
        obtain ⟨k, hk, rfl, hT⟩ := hrel
        by_cases hlt : k < n1
        · obtain ⟨bb, o, rfl, hc⟩ := (s1.below hb1).read k hlt
          obtain ⟨ad, m, cc, hck, hsk, -, -⟩ := hc k hlt
          obtain ⟨hm1, hm2⟩ := hsk.len
          have hbb := World.block_lt_of_cell? w1 _ hck
          have hu1 : (jnTo r k).length + 1 + m ≤ 16777216 := by
            have h1 := jnTo_len r k
            have h2 := sumTo_mono r (k + 1) (r.length - (k + 1))
            have h3 := HRL.out
            rw [show k + 1 + (r.length - (k + 1)) = r.length by omega, sumTo] at h2
            omega
          have HJ : Hid (jnTo r (k + 1) = jnTo r k ++ sepL k ++ r[k]?.getD []) := rfl
          have HM := Lib.hid hm1
          have HCK := Lib.hid hck
          have HSK := Lib.hid hsk
          clear hc hsk hm1 hck
          generalize jnTo r k = u at hT hu1 HJ
          generalize r[k]?.getD [] = rw at HJ HM HSK
          go_upto_if 77 with fail
          go_cut [10, 12] (fun v10 v12 wx => TwoInv w1 z (u ++ sepL k) [] v10 v12 wx)
          case first =>
            obtain ⟨ho10, ho12, hap, rb⟩ := hT
            have hbs := rb.size
            by_cases hk0 : 0 < k
            · have hcs := Lib.hid (con_sep z u k hk0)
              have hsp := Lib.hid (show sepL k = [10] from if_pos hk0)
              have hcl := conl z u [] hzl
              have hcl2 : (z ++ 92 :: 10 :: (escL u ++ [])).length ≤ 33554444 := by simp only [List.length_nil] at hcl; omega
              clear hcl
              generalize z ++ 92 :: 10 :: (escL u ++ []) = t10 at ho10 hcs hcl2
              go_wp2_with (at_builtin; refine append_bl rfl (.tmp 78) (.tmp 79) rfl w1.heap.size _ t10 [92, 10] _ 2 rfl rfl rfl ho10 rfl (by omega) hbs ?_)
              intro v' w2 ho' hA
              have hb2 := hA.bel _ _ rb (Nat.le_refl _)
              obtain ⟨ho12', hap'⟩ := hA.other _ _ _ _ _ _ ho12 hap
              have ho12' : OwnB w2 w1.heap.size u12 u := ho12'
              have hbs2 := hb2.size
              have ho' : OwnB w2 w1.heap.size v' (z ++ 92 :: 10 :: (escL (u ++ sepL k) ++ [])) := by rw [← hcs.out]; exact ho'
              clear ho10 ho12 hap rb hA hbs
              go_wp2_with (at_builtin; refine append_b1 rfl (.tmp 81) (.tmp 82) rfl w1.heap.size _ u 10 rfl ho12' rfl (by omega) hbs2 ?_)
              intro v2 w3 ho2 hA
              have hb3 := hA.bel _ _ hb2 (Nat.le_refl _)
              obtain ⟨ho10', hap2⟩ := hA.other _ _ _ _ _ _ ho' (Apart.symm hap')
              have ho2 : OwnB w3 w1.heap.size v2 (u ++ sepL k) := by rw [hsp.out]; exact ho2
              clear hb2 hA ho' ho12' hap'
              go_wp2_with fail
              go_meet
              case rel => exact ⟨ho10', ho2, Apart.symm hap2, hb3⟩
            · obtain rfl : k = 0 := by omega
              have hsp : u ++ sepL 0 = u := by simp [sepL]
              rw [← hsp] at ho10 ho12
              clear hsp hk0
              go_wp2_with fail
              go_meet
              case rel => exact ⟨ho10, ho12, hap, rb⟩
          case rest =>
            have hul : (u ++ sepL k).length + m ≤ 16777216 := by rw [List.length_append]; have := sepL_len k; omega
            clear hT
            generalize u ++ sepL k = u2 at hcut HJ hul
            go_wp2_with fail
            go_loopw [10, 12, 14] (fun v10 v12 i wr => ∃ j : Nat, j ≤ m ∧ i = .int .i64 j ∧ TwoInv w1 z (u2 ++ rw.take j) [] v10 v12 wr) (fun _ _ i _ => m - (intOf i).toNat)
            case atStart => exact ⟨0, Nat.zero_le _, rfl, by rw [List.take_zero, List.append_nil]; exact hcut⟩
            case round =>
              clear hcut
              obtain ⟨j, hj, rfl, hT⟩ := hrel
              have rbj := hT.2.2.2
              have hck : wr.cell? ⟨bb, o + k, none⟩ = some (.slice ad m cc) := by rw [rbj.cell (p := ⟨bb, o + k, none⟩) hbb]; exact HCK.out
              by_cases hjl : j < m
              · have hsk := HSK.out.below rbj
                obtain ⟨hx0, hx1⟩ := hsk.1 j
                obtain ⟨br, or, rfl, hcr⟩ := hsk.read j hjl
                have hcx := hcr j hjl
                have htk := Lib.hid (take_snoc rw j (by rw [HM.out]; exact hjl))
                have hul2 : (u2 ++ rw.take j).length ≤ 16777216 := by rw [List.length_append, List.length_take]; omega
                clear hsk hcr
                generalize rw[j]?.getD 0 = x at hcx hx0 hx1 htk
                have HU : Hid (u2 ++ rw.take (j + 1) = u2 ++ rw.take j ++ [x]) := by
                  show _ = _
                  rw [htk.out, List.append_assoc]
                generalize u2 ++ rw.take j = u3 at hT hul2 HU
                go_upto_region 26 with fail
                go_cut [110] (fun v wx => v = .bool (escB x) ∧ wr = wx)
                case first =>
                  clear hck hcx
                  by_cases h10 : x = 10
                  · have hq1 : (x == 10) = true := by rw [beq_iff_eq]; exact h10
                    have hE := Lib.hid (show escB x = true by unfold escB; exact decide_eq_true (.inl h10))
                    clear h10
                    go_wp2_with fail
                    go_meet
                    case rel => exact ⟨by rw [hE.out], rfl⟩
                  · have hq1 : (x == 10) = false := beq_eq_false_iff_ne.2 h10
                    by_cases h92 : x = 92
                    · have hq2 : (x == 92) = true := by rw [beq_iff_eq]; exact h92
                      have hE := Lib.hid (show escB x = true by unfold escB; exact decide_eq_true (.inr (.inl h92)))
                      clear h10 h92
                      go_wp2_with fail
                      go_meet
                      case rel => exact ⟨by rw [hE.out], rfl⟩
                    · have hq2 : (x == 92) = false := beq_eq_false_iff_ne.2 h92
                      by_cases h3 : x % 3 = 0
                      · have hq3 : (x % 3 == 0) = true := by rw [beq_iff_eq]; exact h3
                        have hE := Lib.hid (show escB x = true by unfold escB; exact decide_eq_true (.inr (.inr h3)))
                        clear h10 h92 h3
                        go_wp2_with fail
                        go_meet
                        case rel => exact ⟨by rw [hE.out], rfl⟩
                      · have hq3 : (x % 3 == 0) = false := beq_eq_false_iff_ne.2 h3
                        have hE := Lib.hid (show escB x = false by unfold escB; exact decide_eq_false (by simp only [not_or]; exact ⟨h10, h92, h3⟩))
                        clear h10 h92 h3
                        go_wp2_with fail
                        go_meet
                        case rel => exact ⟨by rw [hE.out], rfl⟩
                case rest =>
                obtain ⟨rfl, rfl⟩ := hcut
                go_upto_if 110 with fail
                go_cut [10] (fun v10 wx => TwoInv w1 z u3 (preL x) v10 u12 wx)
                case first =>
                  clear hck
                  obtain ⟨ho10, ho12, hap, rb⟩ := hT
                  have hbs := rb.size
                  cases hesc : escB x
                  · have hp : Hid (preL x = []) := by show preL x = []; unfold preL; rw [hesc]; rfl
                    have he := hesc
                    go_wp2_with fail
                    go_meet
                    case rel => exact ⟨by rw [hp.out]; exact ho10, ho12, hap, rb⟩
                  · have hp : Hid (preL x = [92]) := by show preL x = [92]; unfold preL; rw [hesc]; rfl
                    have hcs := Lib.hid (con_pre z u3)
                    have hcl := conl z u3 [] hzl
                    have hcl2 : (z ++ 92 :: 10 :: (escL u3 ++ [])).length ≤ 33554444 := by simp only [List.length_nil] at hcl; omega
                    clear hcl
                    generalize z ++ 92 :: 10 :: (escL u3 ++ []) = t10 at ho10 hcs hcl2
                    go_wp2_with (at_builtin; refine append_b1 rfl (.tmp 111) (.tmp 112) rfl w1.heap.size _ t10 92 rfl ho10 rfl (by omega) hbs ?_)
                    intro v' w2 ho' hA
                    have hb2 := hA.bel _ _ rb (Nat.le_refl _)
                    obtain ⟨ho12', hap'⟩ := hA.other _ _ _ _ _ _ ho12 hap
                    have ho' : OwnB w2 w1.heap.size v' (z ++ 92 :: 10 :: (escL u3 ++ preL x)) := by rw [hp.out, ← hcs.out]; exact ho'
                    clear ho10 ho12 hap rb hA hbs
                    go_wp2_with fail
                    go_meet
                    case rel => exact ⟨ho', ho12', hap', hb2⟩
                case rest =>
                  clear hT hck hcx rbj
                  obtain ⟨ho10, ho12, hap, rb⟩ := hcut
                  have hbs := rb.size
                  have hcs := Lib.hid (con_byte z u3 x)
                  have hcl := conl z u3 (preL x) hzl
                  have hpl := preL_len x
                  have hcl2 : (z ++ 92 :: 10 :: (escL u3 ++ preL x)).length ≤ 33554444 := by omega
                  clear hcl hpl
                  generalize z ++ 92 :: 10 :: (escL u3 ++ preL x) = t10 at ho10 hcs hcl2
                  go_wp2_with (at_builtin; refine append_b1 rfl (.tmp 114) (.tmp 116) rfl w1.heap.size _ t10 x rfl ho10 rfl (by omega) hbs ?_)
                  intro v' w2 ho' hA
                  have hb2 := hA.bel _ _ rb (Nat.le_refl _)
                  obtain ⟨ho12', hap'⟩ := hA.other _ _ _ _ _ _ ho12 hap
                  have ho12' : OwnB w2 w1.heap.size u12 u3 := ho12'
                  have hbs2 := hb2.size
                  have ho' : OwnB w2 w1.heap.size v' (z ++ 92 :: 10 :: (escL (u3 ++ [x]) ++ [])) := by rw [← hcs.out]; exact ho'
                  clear ho10 ho12 hap rb hA hbs
                  go_wp2_with (at_builtin; refine append_b1 rfl (.tmp 118) (.tmp 120) rfl w1.heap.size _ u3 x rfl ho12' rfl (by omega) hbs2 ?_)
                  intro v2 w3 ho2 hA
                  have hb3 := hA.bel _ _ hb2 (Nat.le_refl _)
                  obtain ⟨ho10', hap2⟩ := hA.other _ _ _ _ _ _ ho' (Apart.symm hap')
                  have H : TwoInv w1 z (u2 ++ rw.take (j + 1)) [] v' v2 w3 := by rw [HU.out]; exact ⟨ho10', ho2, Apart.symm hap2, hb3⟩
                  clear hb2 hA ho' ho12' hap' ho2 ho10' hap2
                  go_wp2_with fail
                  go_roundw
                  case rel => exact ⟨j + 1, by omega, by go_num, H⟩
                  case measure => simp [intOf]; omega
              · have H : TwoInv w1 z (jnTo r (k + 1)) [] u10 u12 wr := by
                  rw [List.take_of_length_le (by rw [HM.out]; omega)] at hT
                  rw [HJ.out]; exact hT
                clear hT
                go_wp2_with fail
                go_roundw
                case rel => exact ⟨k + 1, by omega, by go_num, H⟩
                case measure => simp [intOf]; omega
        · obtain rfl : k = n1 := by omega
          obtain ⟨ho10, ho12, hap, rb⟩ := hT
          have hbs := rb.size
          have hu1 : (jnTo r k).length ≤ 16777216 := by
            have h1 := jnTo_len r k
            have h3 := HRL.out
            rw [h3] at hsum
            omega
          have huB := Lib.hid (jnTo_isB r s1.isB k)
          generalize jnTo r k = u at ho10 ho12 hu1 huB
          have hzB := Lib.hid (bl_isB z HZ.out)
          have hcl := conl z u [] hzl
          have hcl2 : (z ++ 92 :: 10 :: (escL u ++ [])).length ≤ 33554444 := by simp only [List.length_nil] at hcl; omega
          have hl0 := con_len0 z u
          have HCE := Lib.hid (con_end z u b)
          obtain ⟨hT1, hT2, hT3⟩ := text_read z u b HZ.out
          have hTl := con_len z u b
          have hTB := Lib.hid (con_isB z u (10 :: b) hzB.out huB.out (isB_append [10] b (isB_one 10 (by omega) (by omega)) s2.1))
          have hmin : Hid (min (0 + (runL blB (z ++ 92 :: 10 :: (escL u ++ 10 :: b)) 0).length + 2 + (escL u).length + 1) (z ++ 92 :: 10 :: (escL u ++ 10 :: b)).length = z.length + 2 + (escL u).length + 1) := by
            show _ = _
            rw [hT1, hTl]; omega
          have HT2 : Hid ((z ++ 92 :: 10 :: (escL u ++ 10 :: b)).drop (0 + (runL blB (z ++ 92 :: 10 :: (escL u ++ 10 :: b)) 0).length) = 92 :: 10 :: (escL u ++ 10 :: b)) := by
            show _ = _
            rw [hT1]; exact hT2
          have HT3 := Lib.hid hT3
          have HRest : Hid (escL u ++ 10 :: b ≠ []) := by simp [Hid]
          rw [HBL.out] at hTl
          obtain ⟨a10, c10, he10, -, -, -⟩ := ho10.sbn (con_isB z u [] hzB.out huB.out isB_nil) (by omega)
          obtain ⟨a12, c12, he12, -, -, -⟩ := ho12.sbn huB.out (by omega)
          clear hcl hT1 hT2 hT3 s1 hr0 hlt hk
          generalize escL u ++ 10 :: b = rest at HCE hTl hTB hmin HT2 HT3 HRest
          generalize z ++ 92 :: 10 :: rest = t at HCE hTl hTB hmin HT2
          generalize z ++ 92 :: 10 :: (escL u ++ []) = t0 at ho10 hcl2 hl0 HCE he10
          subst he10 he12
          have hpl : t0.length + 1 = z.length + 2 + (escL u).length + 1 := by omega
          rw [← hpl] at hmin
          have hTl2 : t.length ≤ 67108864 := by omega
          have HTL := Lib.hid (show t.length = t0.length + 1 + n2 by omega)
          clear hl0 hTl hpl
          go_wp2_with (at_builtin; refine append_b1 rfl (.tmp 125) (.tmp 126) rfl w1.heap.size _ t0 10 rfl ho10 rfl (by omega) hbs ?_)
          intro v' w2 ho' hA
          have hb2 := hA.bel _ _ rb (Nat.le_refl _)
          obtain ⟨ho12', hap'⟩ := hA.other _ _ _ _ _ _ ho12 hap
          have ho12' : OwnB w2 w1.heap.size _ u := ho12'
          have hbs2 := hb2.size
          have hl1 : (t0 ++ [10]).length + n2 ≤ 67108864 := by rw [List.length_append]; have := HTL.out; simp; omega
          clear ho10 ho12 hap rb hA hbs
          generalize t0 ++ [10] = t1 at ho' hl1 HCE
          go_wp2_with (at_builtin; refine append_sbp rfl (.tmp 128) (.tmp 129) rfl w1.heap.size _ t1 b a2 n2 c2 rfl ho' rfl HN2.out (s2.below (hb1.trans (hb2.mono hw01))) (by omega) hbs2 ?_)
          intro v3 w3 ho3 hA
          have hb3 := hA.bel _ _ hb2 (Nat.le_refl _)
          obtain ⟨ho12b, -⟩ := hA.other _ _ _ _ _ _ ho12' hap'
          have ho12b : OwnB w3 w1.heap.size (.slice a12 u.length c12) u := ho12b
          have su := ho12b.sb huB.out (by omega)
          have ho3 : OwnB w3 w1.heap.size v3 t := by rw [← HCE.out]; exact ho3
          have st := ho3.sb hTB.out (by omega)
          obtain ⟨-, a3, c3, he3, -⟩ := id st
          subst he3
          have hbel3 := hb1.trans (hb3.mono hw01)
          have hH := Lib.hid (text_yes)
          clear ho' hA hb2 ho12' hap' hbs2 hb3 ho12b ho3
          go_wp2_with fail
          refine (newWords_any w3 _ t st).mono ?_
          rintro e w4 ⟨g, rfl, hg, hW, hb4⟩
          have hbel4 := hbel3.trans (hb4.mono hbel3.size)
          have hgB := Nat.le_trans hbel3.size hg
          have su4 := su.below hb4
          clear st hb4 hbel3 su hg
          go_wp2_with fail
          refine (hH.out w4 g t 0 hW rest u (escL u).length HT2.out HRest.out HT3.out).mono ?_
          rw [hmin.out]
          rintro e w5 ⟨v5, rfl, o5, hB5, hl5, hW5, hG⟩
          have su5 := su4.wd hW hG
          have hbel5 := Below.at hbel4 hG hbel4.size hgB
          have s5 := o5.sb hB5 (by omega)
          obtain ⟨-, a5, c5, he5, -⟩ := id s5
          subst he5
          clear hbel4 su4 hG o5 hB5 hW
          go_wp2_with fail
          refine (eqBytes_any w5 _ _ u u s5 su5).mono ?_
          rw [decide_eq_true rfl]
          rintro e w6 ⟨rfl, nq, rfl⟩
          have hW6 := hW5.drewN nq
          have hbel6 := below_drewN hbel5 nq
          clear s5 su5 hW5 hbel5
          go_wp2_with fail
          refine (at_any _ g t _ hW6).mono ?_
          rintro e w7 ⟨rfl, rfl⟩
          go_wp2_with fail
          go_ret
          exact ⟨rfl, hbel6⟩
end Go.Proofs.Ytadjonggmbndmaa
