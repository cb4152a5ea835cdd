/-
  galleylaw16.FillParts: its walk.
-/
import Derived.Test.YtpkejabhkkfalaaPartsF
import Derived.Deep.CutBlock
import Derived.Deep.DeepCutAuto
namespace Go.Proofs.Ytpkejabhkkfalaa
open Go.RowKit

set_option maxHeartbeats 8000000 in
set_option maxRecDepth 100000 in
theorem fillParts_walk (w : World) (a0 : Option Addr) (n0 c0 : Nat) (p : List Pc) (s0 : PS w (.slice a0 n0 c0) p) (x : Int) (hx0 : -9223372036854775808 ≤ x) (hx1 : x ≤ 9223372036854775807)
    (a2 : Option Addr) (n2 c2 : Nat) (text : List Int) (s2 : SB w (.slice a2 n2 c2) text) (hN2 : a2 = none → c2 = 0) (hc2 : n2 ≤ c2) (a3 : Option Addr) (n3 c3 : Nat) (l : List Sp) (s3 : NS w (.slice a3 n3 c3) l) :
    Calls Try.prog 4 #[.slice a0 n0 c0, .int .i64 x, .slice a2 n2 c2, .slice a3 n3 c3] w fun e w' => e = .returned (.bool true) ∧ Below w.heap.size w w' := by
  obtain ⟨hl0, hm0, hc0, hN0⟩ := s0.len
  obtain ⟨hl2, hm2⟩ := s2.len
  obtain ⟨hl3, hm3, hc3⟩ := s3.len
  have hsum0 : ¬ (4194304 : Int) < (capN (sumL p l) : Nat) → sumL p l ≤ 4194304 := cap_big _
  generalize hS : sumL p l = S at hsum0
  have HS := Lib.hid hS
  have HSUM := Lib.hid hsum0
  have HL0 := Lib.hid hl0
  have HL2 := Lib.hid hl2
  have HL3 := Lib.hid hl3
  have HN2 := Lib.hid hN2
  clear hl0 hl2 hl3 hN0 hS hsum0 hN2
  have HLO := Lib.hid (fun W (hb : Below w.heap.size w W) => HS.out ▸ rlong_any W a0 n0 c0 p (s0.below hb) a3 n3 c3 l (s3.below hb))
  go_enter Try.func4, Try.ntmps4
  go_wp2_with fail
  refine (works_any w).mono ?_
  rintro e w1 ⟨rfl, b1⟩
  have HLo := HLO.out w1 b1
  have HLo := Lib.hid HLo
  by_cases hbig : (65536 : Int) < (n0 : Int) + n2 + n3
  · clear HLO HLo
    go_wp2_with fail
    go_ret
    exact ⟨rfl, b1⟩
  by_cases hlo : (4194304 : Int) < (capN S : Nat)
  · generalize capN S = C at HLo hlo
    go_wp2_with fail
    refine HLo.out.mono ?_
    rintro e w2 ⟨rfl, q, rfl⟩
    go_wp2_with fail
    go_ret
    exact ⟨rfl, below_drewN b1 q⟩
  have hSs := HSUM.out (by omega)
  have hlo2 : ¬ (4194304 : Int) < (capN S : Nat) := hlo
  generalize hC : capN S = C at HLo hlo
  have HC := Lib.hid hC
  clear hC hlo2 HSUM HLO
  by_cases hx2 : x < 0
  · go_wp2_with fail
    refine HLo.out.mono ?_
    rintro e w2 ⟨rfl, q, rfl⟩
    go_wp2_with fail
    go_ret
    exact ⟨rfl, below_drewN b1 q⟩
  obtain ⟨k, rfl⟩ : ∃ k : Nat, x = k := ⟨x.toNat, by omega⟩
  by_cases hx3 : (n0 : Int) < k
  · go_wp2_with fail
    refine HLo.out.mono ?_
    rintro e w2 ⟨rfl, q, rfl⟩
    go_wp2_with fail
    go_ret
    exact ⟨rfl, below_drewN b1 q⟩
  have hk : k ≤ n0 := by omega
  -- the three
  obtain ⟨aA, hvA, sA⟩ := s0.cut 0 k (by omega) hk
  obtain ⟨aB, hvB, sB⟩ := s0.cut k n0 hk (by omega)
  have hrA := sliceP_h a0 n0 c0 k _ hk hc0 hvA
  have hrB := sliceP_l a0 n0 c0 k _ hk hvB
  rw [List.drop_zero, Nat.sub_zero] at sA
  rw [Nat.sub_zero] at hrA
  have e0 : (p.drop k).take (n0 - k) = p.drop k := List.take_of_length_le (by rw [List.length_drop, HL0.out]; omega)
  rw [e0] at sB
  have hsA : sumL (p.take k) l ≤ 140737488351232 := by have := sum_take_le p k l; rw [HS.out] at this; omega
  have hsB : sumL (p.drop k) l ≤ 140737488351232 := by have := sum_drop_le p k l; rw [HS.out] at this; omega
  have hsW : sumL p l ≤ 140737488351232 := by rw [HS.out]; omega
  have hWW : expandL p text l = expandL (p.take k) text l ++ expandL (p.drop k) text l := by rw [← expand_append, List.take_append_drop]
  have hBA := isB_expand sA (l := l) s2.1
  have hBB := isB_expand sB (l := l) s2.1
  have hlA := expand_len (p.take k) text l
  have hlB := expand_len (p.drop k) text l
  have hlW := expand_len p text l
  have hnA : (expandL (p.take k) text l).length ≤ 4194304 := by have := sum_take_le p k l; rw [HS.out] at this; omega
  have hnB : (expandL (p.drop k) text l).length ≤ 4194304 := by have := sum_drop_le p k l; rw [HS.out] at this; omega
  have hnW : (expandL p text l).length ≤ 4194304 := by rw [HS.out] at hlW; omega
  have HEX := Lib.hid (fun (W : World) (hb : Below w.heap.size w W) (a : Option Addr) (n c : Nat) (q : List Pc) (sq : PS w (.slice a n c) q) (hq : sumL q l ≤ 140737488351232) =>
    expand_any W a n c q (sq.below hb) a2 n2 c2 text (s2.below hb) HN2.out hc2 a3 n3 c3 l (s3.below hb) hq)
  have HRG := Lib.hid (fun h => expand_right p text l h)
  have HEXA := Lib.hid (fun (W : World) (hb : Below w.heap.size w W) => HEX.out W hb _ _ _ _ sA hsA)
  have HEXB := Lib.hid (fun (W : World) (hb : Below w.heap.size w W) => HEX.out W hb _ _ _ _ sB hsB)
  have HEXW := Lib.hid (fun (W : World) (hb : Below w.heap.size w W) => HEX.out W hb _ _ _ _ s0 hsW)
  rw [hWW] at HEXW HRG hnW
  have HEX1 := Lib.hid (fun (W : World) (hb : Below w.heap.size w W) (a : Option Addr) (n c : Nat) (z : Pc) (sq : PS w (.slice a n c) [z]) (hq : pieceSize l z ≤ 140737488351232) =>
    expand_one z text l ▸ HEX.out W hb a n c [z] sq (by rw [sum_one]; exact hq))
  clear hlA hlB hlW hWW hsA hsB hsW sA sB e0 hvA hvB HEX
  generalize expandL (p.take k) text l = A at HEXA HEXW HRG hBA hnA hnW
  generalize expandL (p.drop k) text l = B at HEXB HEXW HRG hBB hnB hnW
  go_wp2_with fail
  refine HLo.out.mono ?_
  rintro e w2 ⟨rfl, q, rfl⟩
  have b2 := below_drewN b1 q
  generalize w1.drewN q = w2 at b2
  have HEA := Lib.hid (HEXA.out w2 b2)
  clear HLo HEXA b1
  go_wp2_with fail
  refine HEA.out.mono ?_
  rintro e w3 ⟨vA, rfl, oA, b3⟩
  obtain ⟨aa, ca, rfl, gA, hcA, hNA⟩ := oA.got hBA (by omega)
  have bb3 := b2.trans (b3.mono b2.size)
  have HEB := Lib.hid (HEXB.out w3 bb3)
  clear HEA HEXB oA b3 b2 hNA
  go_wp2_with fail
  refine HEB.out.mono ?_
  rintro e w4 ⟨vB, rfl, oB, b4⟩
  obtain ⟨ab, cb, rfl, gB, hcB, hNB⟩ := oB.got hBB (by omega)
  have bb4 := bb3.trans (b4.mono bb3.size)
  replace gA := gA.below b4
  have HEW := Lib.hid (HEXW.out w4 bb4)
  clear HEB HEXW oB b4 bb3 hNB
  go_wp2_with fail
  refine HEW.out.mono ?_
  rintro e w5 ⟨vW, rfl, oW, b5⟩
  have hBW := isB_append A B hBA hBB
  obtain ⟨aw, cw, rfl, gW, hcW, hNW⟩ := oW.got hBW (by omega)
  have bb5 := bb4.trans (b5.mono bb4.size)
  replace gA := gA.below b5
  replace gB := gB.below b5
  obtain ⟨y1, -, gW1, -, hy1⟩ := gW.cut 0 A.length (by omega) (by rw [List.length_append]; omega) hcW
  obtain ⟨y2, -, gW2, hr2, hy2⟩ := gW.cut A.length (A ++ B).length (by rw [List.length_append]; omega) (by omega) hcW
  have hr1 := sliceB_h aw (A ++ B).length cw A.length _ (by rw [List.length_append]; omega) hcW hy1
  replace hr2 := fun W => (hr2 W).trans (congrArg (Result.ok · W) hy2)
  simp only [List.drop_zero, Nat.sub_zero, List.take_left] at gW1
  rw [List.drop_left, List.take_of_length_le (by rw [List.length_append]; omega)] at gW2
  simp only [Nat.sub_zero] at hr1
  have HQ1 := Lib.hid (eqBytes_yes w5 _ _ _ gW1 gA)
  have HQ2 := Lib.hid (fun q => eqBytes_yes (w5.drewN q) _ _ _ (gW2.drewN q) (gB.drewN q))
  have hAB : ((A ++ B).length : Int) = (A.length : Int) + (B.length : Int) := by rw [List.length_append]; omega
  generalize (A ++ B).length = nW at *
  generalize A.length = nA at *
  generalize B.length = nB at *
  clear gW gA gB gW1 gW2 hy1 hy2 oW b5 bb4 hNW HEW
  go_wp2_with fail
  refine HQ1.out.mono ?_
  rintro e w6 ⟨rfl, q1, rfl⟩
  have HQ2' := Lib.hid (HQ2.out q1)
  clear HQ1 HQ2
  go_wp2_with fail
  refine HQ2'.out.mono ?_
  rintro e w6 ⟨rfl, q2, rfl⟩
  rw [World.drewN_drewN]
  have b6 := below_drewN bb5 (q1 + q2)
  generalize w5.drewN (q1 + q2) = w6 at *
  clear HQ2' bb5 hr1 hr2 hBA hBB hBW
  go_wp2_with fail
  have b6s := b6.size
  clear hAB
  go_loopw [13, 14] (fun r i wr => ∃ (j q : Nat), j ≤ n3 ∧ i = .int .i64 j ∧ r = .int .i64 (goods n2 (l.take j) : Nat) ∧ wr = w6.drewN q) (fun _ i _ => n3 - (intOf i).toNat)
  case atStart => exact ⟨0, 0, Nat.zero_le _, rfl, rfl, rfl⟩
  case round =>
    obtain ⟨j, q, hj, rfl, rfl, rfl⟩ := hrel
    by_cases hlt : j < n3
    · as_aux_lemma =>
      have hjl : j < l.length := by rw [HL3.out]; exact hlt
      obtain ⟨b, o, rfl, hc⟩ := (s3.below b6).read j hlt
      obtain ⟨d1, d2⟩ := hc j hlt
      obtain ⟨i1, i2⟩ := s3.1 j
      have hgs := goods_snoc n2 l j hjl
      have hgl : goods n2 (l.take j) ≤ j := by have := goods_le n2 (l.take j); rw [List.length_take] at this; omega
      generalize l[j]?.getD (-1, -1) = z at d1 d2 i1 i2 hgs
      obtain ⟨f, t⟩ := z
      simp only at d1 d2 i1 i2
      unfold IsI at i1 i2
      have HG := Lib.hid hgs
      generalize goods n2 (l.take j) = G at HG hgl
      have e0 : decide (j < n3) = true := decide_eq_true hlt
      clear hgs hc
      by_cases h1 : f < 0
      · have e1 : decide (0 ≤ f) = false := decide_eq_false (by omega)
        by_cases h2 : f = -1
        · have e2 : (f == -1) = true := beq_iff_eq.2 h2
          by_cases h3 : t = -1
          · have e3 : (t == -1) = true := beq_iff_eq.2 h3
            have H2 := Lib.hid h2
            have H3 := Lib.hid h3
            clear h2 h3
            have HG2 : Hid (goods n2 (l.take (j + 1)) = G + 1) := Lib.hid (by rw [HG.out, if_pos (by unfold goodSp; simp [H2.out, H3.out])])
            go_wp2_with fail
            go_quiet (fail)
            go_wp2_with fail
            go_roundw
            case rel =>
              refine ⟨j + 1, _, hlt, ?_, ?_, rfl⟩
              · go_num
              · rw [HG2.out]; rfl
            case measure => simp [intOf]; omega
          · have e3 : (t == -1) = false := beq_eq_false_iff_ne.2 h3
            have H2 := Lib.hid h2
            clear h2
            have HG2 : Hid (goods n2 (l.take (j + 1)) = G + 0) := Lib.hid (by rw [HG.out, if_neg (by unfold goodSp; simp; have := H2.out; omega)])
            go_wp2_with fail
            go_quiet (fail)
            go_wp2_with fail
            go_roundw
            case rel =>
              refine ⟨j + 1, _, hlt, ?_, ?_, rfl⟩
              · go_num
              · rw [HG2.out]; rfl
            case measure => simp [intOf]; omega
        · have e2 : (f == -1) = false := beq_eq_false_iff_ne.2 h2
          have HG2 : Hid (goods n2 (l.take (j + 1)) = G + 0) := Lib.hid (by rw [HG.out, if_neg (by unfold goodSp; simp; omega)])
          go_wp2_with fail
          go_quiet (fail)
          go_wp2_with fail
          go_roundw
          case rel =>
            refine ⟨j + 1, _, hlt, ?_, ?_, rfl⟩
            · go_num
            · rw [HG2.out]; rfl
          case measure => simp [intOf]; omega
      · have e1 : decide (0 ≤ f) = true := decide_eq_true (by omega)
        have e2 : (f == -1) = false := beq_eq_false_iff_ne.2 (by omega)
        by_cases h4 : t < f
        · have e3 : decide (f ≤ t) = false := decide_eq_false (by omega)
          have HG2 : Hid (goods n2 (l.take (j + 1)) = G + 0) := Lib.hid (by rw [HG.out, if_neg (by unfold goodSp; simp; omega)])
          go_wp2_with fail
          go_quiet (fail)
          go_wp2_with fail
          go_roundw
          case rel =>
            refine ⟨j + 1, _, hlt, ?_, ?_, rfl⟩
            · go_num
            · rw [HG2.out]; rfl
          case measure => simp [intOf]; omega
        · have e3 : decide (f ≤ t) = true := decide_eq_true (by omega)
          by_cases h5 : (n2 : Int) < t
          · have e4 : decide (t ≤ n2) = false := decide_eq_false (by omega)
            have HG2 : Hid (goods n2 (l.take (j + 1)) = G + 0) := Lib.hid (by rw [HG.out, if_neg (by unfold goodSp; simp; omega)])
            go_wp2_with fail
            go_quiet (fail)
            go_wp2_with fail
            go_roundw
            case rel =>
              refine ⟨j + 1, _, hlt, ?_, ?_, rfl⟩
              · go_num
              · rw [HG2.out]; rfl
            case measure => simp [intOf]; omega
          · have e4 : decide (t ≤ n2) = true := decide_eq_true (by omega)
            have HG2 : Hid (goods n2 (l.take (j + 1)) = G + 1) := Lib.hid (by rw [HG.out, if_pos (by unfold goodSp; simp; omega)])
            go_wp2_with fail
            go_quiet (fail)
            go_wp2_with fail
            go_roundw
            case rel =>
              refine ⟨j + 1, _, hlt, ?_, ?_, rfl⟩
              · go_num
              · rw [HG2.out]; rfl
            case measure => simp [intOf]; omega
    · obtain rfl : j = n3 := by omega
      have htl : l.take j = l := List.take_of_length_le (by rw [HL3.out]; omega)
      rw [htl]
      have hg3 := goods_le n2 l
      rw [HL3.out] at hg3
      have HRG2 : Hid (goods n2 l = j → nW = S) := Lib.hid (fun h => by rw [← HS.out]; exact HRG.out (by rw [HL2.out]; exact goods_all n2 l (by rw [HL3.out]; exact h)))
      generalize goods n2 l = G at hg3 HRG2
      have HCC : Hid (nW = S → C = nW) := Lib.hid (fun h => by rw [← HC.out, cap_small S (by omega), h])
      have HFL := Lib.hid (fun (W : World) (hb : Below w.heap.size w W) => HC.out ▸ HS.out ▸ flong_any W a0 n0 c0 p (s0.below hb) _ j c3 l (s3.below hb))
      have bq := below_drewN b6 q
      generalize w6.drewN q = w7 at bq ⊢
      clear HRG b6 b6s
      have hw40 : decide (nW ≤ 1099511627776) = true := decide_eq_true (by omega)
      have HF7 := Lib.hid (HFL.out w7 bq)
      clear HFL hrA hrB
      go_upto_region 17 with fail
      go_cut [159] (fun v wx => v = .bool false ∧ Below w.heap.size w wx)
      case first =>
        as_aux_lemma =>
        by_cases hgj : G = j
        · have e1 : ((G : Int) == (j : Int)) = true := beq_iff_eq.2 (by omega)
          have e2 : ((C : Int) != (nW : Int)) = false := by rw [bne_eq_false_iff_eq, HCC.out (HRG2.out hgj)]
          have HGJ := Lib.hid hgj
          clear hgj
          go_wp2_with fail
          refine HF7.out.mono ?_
          rintro e w8 ⟨rfl, b8⟩
          have b8 := bq.trans (b8.mono bq.size)
          go_wp2_with fail
          go_meet
          case rel => exact ⟨rfl, b8⟩
        · have e1 : ((G : Int) == (j : Int)) = false := beq_eq_false_iff_ne.2 (by omega)
          go_wp2_with fail
          go_meet
          case rel => exact ⟨rfl, bq⟩
      case rest =>
        obtain ⟨rfl, bc⟩ := hcut
        clear HF7 bq HCC HRG2
        go_wp2_with fail
        go_loopw [15] (fun i wr => ∃ (m : Nat), m ≤ n0 ∧ i = .int .i64 m ∧ Below w.heap.size w wr) (fun i _ => n0 - (intOf i).toNat)
        case atStart => exact ⟨0, Nat.zero_le _, rfl, bc⟩
        case round =>
          obtain ⟨m, hm, rfl, bm⟩ := hrel
          by_cases hlt2 : m < n0
          · as_aux_lemma =>
            have hml : m < p.length := by rw [HL0.out]; exact hlt2
            have hpz := size_at p m hml l
            obtain ⟨bb, o, rfl, hc⟩ := s0.read m hlt2
            obtain ⟨d1, ad, tn, tc, d2, dS, -, -⟩ := hc m hlt2
            have sx := s0.one m hlt2
            have i1 := s0.1 m
            rw [HS.out] at hpz
            have hBx := isB_expand sx (l := l) s2.1
            rw [expand_one] at hBx
            generalize p[m]?.getD (0, []) = z at d1 d2 dS hpz i1 sx hBx
            obtain ⟨g, tz⟩ := z
            simp only at d1 d2 dS i1
            unfold IsI at i1
            have hpl : (pieceOf text l (g, tz)).length ≤ 4194304 := by have := piece_len text l (g, tz); omega
            have HE := Lib.hid (HEX1.out wr bm _ 1 (c0 - m) (g, tz) sx (by omega))
            have e0 : decide (m < n0) = true := decide_eq_true hlt2
            clear hc hpz sx
            go_wp2_with fail
            refine HE.out.mono ?_
            rintro e w9 ⟨vx, rfl, ox, b9⟩
            obtain ⟨ay, cy, rfl, gx, hcy, -⟩ := ox.got hBx (by omega)
            have b9' := bm.trans (b9.mono bm.size)
            have d1 := d1
            rw [← b9'.cell (World.block_lt_of_cell? _ _ d1)] at d1
            rw [← b9'.cell (World.block_lt_of_cell? _ _ d2)] at d2
            have dS := dS.below b9'
            clear HE ox hBx b9 hpl bc
            have hRel : ∀ wz, Below w.heap.size w wz → ∃ (m_1 : Nat), m_1 ≤ n0 ∧ Value.int .i64 ((m : Int) + 1) = .int .i64 m_1 ∧ Below w.heap.size w wz := fun wz hz => ⟨m + 1, hlt2, by go_num, hz⟩
            have HRel := Lib.hid hRel
            clear hRel
            by_cases hg1 : g = -1
            · have e1 : (g == -1) = true := beq_iff_eq.2 hg1
              have hp1 : pieceOf text l (g, tz) = tz := by unfold pieceOf; rw [if_pos hg1]
              rw [hp1] at gx hcy ⊢
              have e2 : decide (0 ≤ g) = false := decide_eq_false (by omega)
              have e3 : (g != -1) = false := by rw [bne_eq_false_iff_eq]; exact hg1
              have HEQ := Lib.hid (eqBytes_yes w9 _ _ _ gx dS)
              obtain ⟨tl, htl⟩ : ∃ tl, tz.length = tl := ⟨_, rfl⟩
              rw [htl] at HEQ ⊢
              have HG1 := Lib.hid hg1
              clear gx dS hg1 hp1 hcy htl
              go_wp2_with fail
              refine HEQ.out.mono ?_
              rintro e wa ⟨rfl, qa, rfl⟩
              have ba := below_drewN b9' qa
              generalize w9.drewN qa = wa at ba ⊢
              clear HEQ b9'
              go_wp2_with fail
              try go_quiet (fail)
              go_wp2_with fail
              go_roundw
              case rel => exact HRel.out _ (below_drewN ba _)
              case measure => simp [intOf]; omega
            have e1 : (g == -1) = false := beq_eq_false_iff_ne.2 hg1
            have e1b : (g != -1) = true := by rw [bne_iff_ne]; exact hg1
            have hp1 : pieceOf text l (g, tz) = takenL g text l := by unfold pieceOf; rw [if_neg hg1]
            rw [hp1] at gx hcy ⊢
            have HG1 := Lib.hid hg1
            clear hp1 dS d2 hg1
            by_cases hg2 : g < 0
            · have ht := taken_neg g text l hg2
              have e2 : decide (0 ≤ g) = false := decide_eq_false (by omega)
              rw [ht] at gx hcy ⊢
              rw [show ([] : List Int).length = 0 from rfl] at gx hcy ⊢
              clear ht gx
              go_wp2_with fail
              go_quiet (fail)
              go_wp2_with fail
              go_roundw
              case rel => exact HRel.out _ (below_drewN b9' _)
              case measure => simp [intOf]; omega
            obtain ⟨y, rfl⟩ : ∃ y : Nat, g = y := ⟨g.toNat, by omega⟩
            have e2 : decide ((0 : Int) ≤ (y : Int)) = true := decide_eq_true (by omega)
            by_cases hg3 : j ≤ y
            · have ht := taken_far y text l (by rw [HL3.out]; exact hg3)
              have e3 : decide (y < j) = false := decide_eq_false (by omega)
              rw [ht] at gx hcy ⊢
              rw [show ([] : List Int).length = 0 from rfl] at gx hcy ⊢
              clear ht gx
              go_wp2_with fail
              go_quiet (fail)
              go_wp2_with fail
              go_roundw
              case rel => exact HRel.out _ (below_drewN b9' _)
              case measure => simp [intOf]; omega
            have hg4 : y < j := by omega
            clear hg3
            have e3 : decide (y < j) = true := decide_eq_true (by omega)
            have ht := taken_at y text l
            obtain ⟨bs, os, rfl, hcs⟩ := (s3.below b9').read y (by omega)
            obtain ⟨d3, d4⟩ := hcs y (by omega)
            obtain ⟨i3, i4⟩ := s3.1 y
            rw [HL2.out] at ht
            clear hcs
            generalize l[y]?.getD (-1, -1) = sp at d3 d4 i3 i4 ht
            obtain ⟨f, t⟩ := sp
            simp only at d3 d4 i3 i4 ht
            unfold IsI at i3 i4
            by_cases h1 : f < 0
            · rw [if_neg (by omega)] at ht
              have e4 : decide (0 ≤ f) = false := decide_eq_false (by omega)
              rw [ht] at gx hcy ⊢
              rw [show ([] : List Int).length = 0 from rfl] at gx hcy ⊢
              clear ht gx
              go_wp2_with fail
              go_quiet (fail)
              go_wp2_with fail
              go_roundw
              case rel => exact HRel.out _ (below_drewN b9' _)
              case measure => simp [intOf]; omega
            have e4 : decide (0 ≤ f) = true := decide_eq_true (by omega)
            by_cases h2 : t < f
            · rw [if_neg (by omega)] at ht
              have e5 : decide (f ≤ t) = false := decide_eq_false (by omega)
              rw [ht] at gx hcy ⊢
              rw [show ([] : List Int).length = 0 from rfl] at gx hcy ⊢
              clear ht gx
              go_wp2_with fail
              go_quiet (fail)
              go_wp2_with fail
              go_roundw
              case rel => exact HRel.out _ (below_drewN b9' _)
              case measure => simp [intOf]; omega
            have e5 : decide (f ≤ t) = true := decide_eq_true (by omega)
            by_cases h3 : (n2 : Int) < t
            · rw [if_neg (by omega)] at ht
              have e6 : decide (t ≤ n2) = false := decide_eq_false (by omega)
              rw [ht] at gx hcy ⊢
              rw [show ([] : List Int).length = 0 from rfl] at gx hcy ⊢
              clear ht gx
              go_wp2_with fail
              go_quiet (fail)
              go_wp2_with fail
              go_roundw
              case rel => exact HRel.out _ (below_drewN b9' _)
              case measure => simp [intOf]; omega
            have e6 : decide (t ≤ n2) = true := decide_eq_true (by omega)
            rw [if_pos (by omega)] at ht
            obtain ⟨F, rfl⟩ : ∃ F : Nat, f = F := ⟨f.toNat, by omega⟩
            obtain ⟨T, rfl⟩ : ∃ T : Nat, t = T := ⟨t.toNat, by omega⟩
            obtain ⟨az, hrun, hsz, -, -⟩ := (s2.below b9').cut F T (by omega) (by omega) hc2
            rw [show ((F : Int)).toNat = F from rfl, show ((T : Int) - (F : Int)).toNat = T - F by omega] at ht
            rw [ht] at gx hcy ⊢
            have HEQ := Lib.hid (fun n q => eqBytes_q (w9.drewN n) _ _ _ (gx.drewN n) (hsz.drewN n) q)
            obtain ⟨tl, htl⟩ : ∃ tl, ((text.drop F).take (T - F)).length = tl := ⟨_, rfl⟩
            rw [htl] at HEQ ⊢
            clear gx hcy ht htl hsz
            go_wp2_with fail
            go_quiet (fail)
            go_wp2_with fail
            have HEQ2 := Lib.hid (HEQ.out nq)
            have bb9 := below_drewN b9' nq
            have d3 : (w9.drewN nq).cell? ⟨bs, os + y * 2, none⟩ = some (.int .i64 F) := d3
            have d4 : (w9.drewN nq).cell? ⟨bs, os + y * 2 + 1, none⟩ = some (.int .i64 T) := d4
            generalize w9.drewN nq = wb at HEQ2 bb9 d3 d4 ⊢
            clear HEQ
            go_quiet ((go_at_call 15; exact HEQ2.out _))
            go_wp2_with fail
            go_roundw
            case rel => exact HRel.out _ (below_drewN bb9 _)
            case measure => simp [intOf]; omega
          · obtain rfl : m = n0 := by omega
            go_wp2_with fail
            go_ret
            exact ⟨rfl, bm⟩
end Go.Proofs.Ytpkejabhkkfalaa
