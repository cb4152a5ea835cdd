/-
  galleylaw01.ClassMakes: its walk.
-/
import Derived.Test.YtcdoliinemafaaaDoorMakesN
import Derived.Test.YtcdoliinemafaaaDoorWorks
namespace Go.Proofs.YtcdoliinemafaaaDoor
open Go.RowKit

/-- The bytes, and sixteen marks behind them. -/
def inF (l : List Int) : List Int := l ++ List.replicate 16 165
def inU (l : List Int) (i : Nat) : List Int := (inF l).take i ++ List.replicate (l.length + 16 - i) 0
theorem inF_len (l : List Int) : (inF l).length = l.length + 16 := by simp [inF]
theorem inU_len (l : List Int) (i : Nat) (h : i ≤ l.length + 16) : (inU l i).length = l.length + 16 := by
  simp [inU, inF_len]; omega
theorem inU_zero (l : List Int) : inU l 0 = List.replicate (l.length + 16) 0 := by simp [inU]
theorem inU_all (l : List Int) : inU l (l.length + 16) = inF l := by
  unfold inU
  rw [List.take_of_length_le (by rw [inF_len]; omega), Nat.sub_self]
  simp
theorem inF_low (l : List Int) (i : Nat) (h : i < l.length) : (inF l)[i]?.getD 0 = l[i]?.getD 0 := by
  unfold inF; rw [List.getElem?_append_left h]
theorem inF_high (l : List Int) (i : Nat) (h : l.length ≤ i) (h2 : i < l.length + 16) : (inF l)[i]?.getD 0 = 165 := by
  unfold inF; rw [List.getElem?_append_right h, List.getElem?_replicate, if_pos (by omega)]; rfl
theorem inU_step (l : List Int) (i : Nat) (h : i < l.length + 16) : (inU l i).set i ((inF l)[i]?.getD 0) = inU l (i + 1) := by
  apply List.ext_getElem?
  intro j
  have hl := inF_len l
  unfold inU
  rcases Nat.lt_trichotomy j i with hj | hj | hj
  · rw [List.getElem?_set_ne (by omega), List.getElem?_append_left (by simp; omega), List.getElem?_append_left (by simp; omega), List.getElem?_take_of_lt hj, List.getElem?_take_of_lt (by omega)]
  · subst hj
    rw [List.getElem?_set_self (by simp; omega), List.getElem?_append_left (by simp; omega), List.getElem?_take_of_lt (by omega), List.getElem?_eq_getElem (by omega)]
    rfl
  · rw [List.getElem?_set_ne (by omega), List.getElem?_append_right (by simp; omega), List.getElem?_append_right (by simp; omega), List.getElem?_replicate, List.getElem?_replicate]
    simp only [List.length_take, hl]
    by_cases h3 : j < l.length + 16
    · rw [if_pos (by omega), if_pos (by omega)]
    · rw [if_neg (by omega), if_neg (by omega)]

theorem madeM (w : World) (n m : Nat) (hm : m = n + 16) (hn : n ≤ 140737488351232) : (Instr.makeSlice 22 (.int .i64 ((n : Int) + 16)) (.int .i64 ((n : Int) + 16))).run Tryd.prog w = .ok (.slice (some ⟨w.heap.size, 0, none⟩) m m) (w.alloc (.cells (row (List.replicate m 0)) 5)) := by
  obtain ⟨i, hi, hz, hs, hb⟩ := info_parts infoB
  have h := run_make (P := Tryd.prog) w 22 5 i (.int .u8 0) Tryd.underlying22 hi hz .i64 .i64 m m (by omega) (by omega) (by rw [hb]; omega) (by omega)
  rw [show ((m : Nat) : Int) = (n : Int) + 16 by omega] at h
  rw [h, hs]
  have e : madeCells (Value.cells (.int .u8 0)) (((n : Int) + 16).toNat * 1) = row (List.replicate m 0) := by
    rw [show ((n : Int) + 16).toNat = m by omega]
    apply Array.ext'
    simp [madeCells, row, Value.cells, Nat.mod_one]
    exact List.eq_replicate_iff.2 ⟨by simp, fun b hb => by simp at hb; obtain ⟨_, _, rfl⟩ := hb; rfl⟩
  rw [e, show ((n : Int) + 16).toNat = m by omega]
theorem in_cut (g n m : Nat) (h : n ≤ m) (W : World) : (Instr.slice 22 (.slice (some ⟨g, 0, none⟩) m m) none (some (.int .i64 (n : Int))) none).run Tryd.prog W = .ok (.slice (some ⟨g, 0, none⟩) n m) W := by
  rw [run_slice_h W 22 (some ⟨g, 0, none⟩) m m elemU8 .i64 n (by omega) (by omega), sizeU8]
  simp [sliced, Addr.add, Result.andThen]
theorem in_sb {w : World} {g : Nat} {l : List Int} (h : Arr w g 5 (inF l)) (hB : IsB l) (hl : l.length ≤ 140737488351232) (m : Nat) : SB w (.slice (some ⟨g, 0, none⟩) l.length m) l := by
  refine ⟨hB, _, _, rfl, hl, ?_⟩
  by_cases h0 : l = []
  · exact .inl h0
  · refine .inr ⟨g, 0, rfl, fun i hi => ?_⟩
    rw [Nat.zero_add, h.cell i (by rw [inF_len]; omega), inF_low l i hi]

/-- What the walk keeps at its end. -/
structure MK (w W : World) (b12 b14 b16 : Nat) (c x : List Nat) : Prop where
  a12 : Arr64 W b12 26 c
  a14 : Arr64 W b14 26 x
  a16 : Arr64 W b16 26 x
  bel : Below w.heap.size w W
theorem MK.below {w W W' : World} {b12 b14 b16 : Nat} {c x : List Nat} (h : MK w W b12 b14 b16 c x) (hb : Below W.heap.size W W') : MK w W' b12 b14 b16 c x :=
  ⟨h.a12.below hb h.a12.lt, h.a14.below hb h.a14.lt, h.a16.below hb h.a16.lt, h.bel.trans (hb.mono h.bel.size)⟩

set_option maxHeartbeats 8000000 in
set_option maxRecDepth 100000 in
theorem makes_walk (w : World) (a0 : Option Addr) (n c0 : Nat) (l : List Int) (s0 : SB w (.slice a0 n c0) l) (lo hi : Int) (hlo0 : 0 ≤ lo) (hlo1 : lo ≤ 255) (hhi0 : 0 ≤ hi) (hhi1 : hi ≤ 255) (s : ByteArray) (hs : s.size ≤ 9223372036854775807) (hN : NamW w) :
    Calls Tryd.prog 3 #[.slice a0 n c0, .int .u8 lo, .int .u8 hi, .string s] w fun e w' => e = .returned (.bool true) ∧ Below w.heap.size w w' := by
  obtain ⟨lo, rfl⟩ : ∃ k : Nat, lo = k := ⟨lo.toNat, by omega⟩
  obtain ⟨hi, rfl⟩ : ∃ k : Nat, hi = k := ⟨hi.toNat, by omega⟩
  obtain ⟨hl, hn⟩ := s0.len
  obtain ⟨m, hm⟩ : ∃ m, m = n + 16 := ⟨_, rfl⟩
  have hmk := fun W => madeM W n m hm hn
  have hcut := fun g W => in_cut g n m (by omega) W
  have HM := Lib.hid hm
  have HL := Lib.hid hl
  have hmI : (n : Int) + 16 = (m : Int) := by omega
  have HMI := Lib.hid hmI
  have hnm : n ≤ m := by omega
  have hm2 : m ≤ 140737488351248 := by omega
  have HMK := Lib.hid hmk
  have HCUT := Lib.hid hcut
  clear hm hl hmI hmk hcut
  go_enter Tryd.func3, Tryd.ntmps3
  go_wp2_with fail
  refine (works_any w).mono ?_
  rintro e w1 ⟨rfl, b1⟩
  have hmk := HMK.out
  have bA := b1.alloc b1.size (.cells (row (List.replicate m 0)) 5)
  have hA : Arr (w1.alloc (.cells (row (List.replicate m 0)) 5)) w1.heap.size 5 (inU l 0) := by rw [inU_zero, HL.out, ← HM.out]; exact Arr.new _ _ _
  have hg := b1.size
  go_upto_region 3 with fail
  generalize w1.alloc (.cells (row (List.replicate m 0)) 5) = W2 at hA bA ⊢
  generalize w1.heap.size = g at hA hg ⊢
  clear hmk b1
  go_wp2_with fail
  go_loopw [11] (fun i wr => ∃ k : Nat, k ≤ m ∧ i = .int .i64 k ∧ Arr wr g 5 (inU l k) ∧ Below w.heap.size w wr) (fun i _ => m - (intOf i).toNat)
  case atStart => exact ⟨0, Nat.zero_le _, rfl, hA, bA⟩
  case round =>
    clear hA bA
    obtain ⟨k, hk, rfl, hA, bA⟩ := hrel
    by_cases hlt : k < m
    · have hkl : k < l.length + 16 := by rw [HL.out, ← HM.out]; exact hlt
      have hul := inU_len l k (by omega)
      have c1 := hA.cell k (by omega)
      have f1 := hA.frozen k
      have hA2 := hA.set k 165
      have hst := inU_step l k hkl
      have HRel : Hid (∀ wz, Arr wz g 5 (inU l (k + 1)) → Below w.heap.size w wz → ∃ k_1 : Nat, k_1 ≤ m ∧ Value.int .i64 ((k : Int) + 1) = .int .i64 k_1 ∧ Arr wz g 5 (inU l k_1) ∧ Below w.heap.size w wz) := Lib.hid (fun wz h1 h2 => ⟨k + 1, hlt, by go_num, h1, h2⟩)
      by_cases hkn : k < n
      · have hlow := inF_low l k (by rw [HL.out]; exact hkn)
        rw [hlow] at hst
        obtain ⟨b, o, rfl, hc⟩ := s0.read k hkn
        have d1 := hc k hkn
        have d2 : (wr.setCell ⟨g, k, none⟩ (.int .u8 165)).cell? ⟨b, o + k, none⟩ = some (.int .u8 (l[k]?.getD 0)) := by
          rw [(bA.setCell hg _).cell (World.block_lt_of_cell? w _ d1)]; exact d1
        have c2 := hA2.cell k (by rw [List.length_set]; omega)
        have f2 := hA2.frozen k
        have hA3 := hA2.set k (l[k]?.getD 0)
        rw [List.set_set, hst] at hA3
        have bA3 : Below w.heap.size w ((wr.setCell ⟨g, k, none⟩ (.int .u8 165)).setCell ⟨g, k, none⟩ (.int .u8 (l[k]?.getD 0))) := (bA.setCell hg _).setCell hg _
        clear hst hlow hc d1 hA hA2 bA hul
        generalize l[k]?.getD 0 = x at *
        have HR := Lib.hid (HRel.out _ hA3 bA3)
        clear hA3 bA3 HRel
        go_wp2_with fail
        go_roundw
        case rel => exact HR.out
        case measure => simp [intOf]; omega
      · have hhigh := inF_high l k (by rw [HL.out]; omega) hkl
        rw [hhigh] at hst
        rw [hst] at hA2
        have bA2 : Below w.heap.size w (wr.setCell ⟨g, k, none⟩ (.int .u8 165)) := bA.setCell hg _
        have HR := Lib.hid (HRel.out _ hA2 bA2)
        clear hst hhigh hA hA2 bA hul bA2 HRel
        go_wp2_with fail
        go_roundw
        case rel => exact HR.out
        case measure => simp [intOf]; omega
    · obtain rfl : k = m := by omega
      have hF : Arr wr g 5 (inF l) := by have := inU_all l; rw [HL.out, ← HM.out] at this; rw [← this]; exact hA
      clear hA
      have sI := in_sb hF s0.1 (by rw [HL.out]; omega) k
      rw [HL.out] at sI
      have hcut := HCUT.out g
      have hcO := isC_ofL l
      go_wp2_with fail
      refine (of_any wr _ l sI).mono ?_
      rintro e w3 ⟨rfl, b3⟩
      have hF3 := hF.below b3 hF.lt
      have b3 := bA.trans (b3.mono bA.size)
      have HZ := Lib.hid (fun (c : List Nat) (h : IsC c) => (show (Tryd.prog.info? 26).map (·.size) = some (row64 c).size by rw [row64_size, h.1]; exact infoC))
      clear hF sI bA hcut
      go_upto_region 10 with (refine wpList_store_cells rfl 26 _ _ rfl rfl w3.heap.size 26 _ _ rfl rfl (heap_alloc_new w3 _) (by rw [row64_size, hcO.1]; rfl) (HZ.out _ hcO) (row64_one _) ?_)
      have hbx := box_new w3 noneL (ofL l)
      have hF4 := Arr.setRow_other (hF3.alloc (.cells (row64 noneL) 26)) (row64 (ofL l)) (Nat.ne_of_lt hF3.lt)
      have b4 := box_bel b3 noneL (ofL l) 26
      rw [show (#[.int .u64 0, .int .u64 0, .int .u64 0, .int .u64 0] : Array Value) = row64 noneL from rfl]
      generalize (w3.alloc (.cells (row64 noneL) 26)).setRow w3.heap.size (row64 (ofL l)) = W4 at hbx hF4 b4 ⊢
      generalize w3.heap.size = b12 at hbx ⊢
      clear b3 hF3
      go_wp2_with fail
      go_loopw [13] (fun i wr => ∃ j q : Nat, j ≤ k ∧ i = .int .i64 j ∧ wr = W4.drewN q) (fun i _ => k - (intOf i).toNat)
      case atStart => exact ⟨0, 0, Nat.zero_le _, rfl, rfl⟩
      case round =>
        obtain ⟨j, q, hj, rfl, rfl⟩ := hrel
        by_cases hlj : j < k
        · have hjl : j < l.length + 16 := by rw [HL.out, ← HM.out]; exact hlj
          have c1 := hF4.cell j (by rw [inF_len]; exact hjl)
          have e0 : decide (j < k) = true := decide_eq_true hlj
          by_cases hjn : j < n
          · have hlow := inF_low l j (by rw [HL.out]; exact hjn)
            rw [hlow] at c1
            obtain ⟨b, o, rfl, hc⟩ := s0.read j hjn
            have d1 := hc j hjn
            have d2 : W4.cell? ⟨b, o + j, none⟩ = some (.int .u8 (l[j]?.getD 0)) := by rw [b4.cell (World.block_lt_of_cell? w _ d1)]; exact d1
            have e1 : decide (j < n) = true := decide_eq_true hjn
            have e2 : decide (n ≤ j) = false := decide_eq_false (by omega)
            clear hc d1 hlow
            generalize l[j]?.getD 0 = x at c1 d2
            have e3 : (x != x) = false := by simp
            go_wp2_with fail
            go_quiet (fail)
            go_wp2_with fail
            go_roundw
            case rel => exact ⟨j + 1, _, hlj, by go_num, rfl⟩
            case measure => simp [intOf]; omega
          · have hhigh := inF_high l j (by rw [HL.out]; omega) hjl
            rw [hhigh] at c1
            have e1 : decide (j < n) = false := decide_eq_false hjn
            have e2 : decide (n ≤ j) = true := decide_eq_true (by omega)
            clear hhigh
            go_wp2_with fail
            go_quiet (fail)
            go_wp2_with fail
            go_roundw
            case rel => exact ⟨j + 1, _, hlj, by go_num, rfl⟩
            case measure => simp [intOf]; omega
        · obtain rfl : j = k := by omega
          have hN4 : NamW (W4.drewN q) := hN.below (b4.trans ((below_drewN (Below.refl _ W4) q).mono b4.size)) (Nat.le_refl _)
          have b5 := below_drewN b4 q
          have hbx5 := hbx.drewN q
          generalize W4.drewN q = W5 at hN4 b5 hbx5 ⊢
          clear hbx b4 hF4
          have hNd := Lib.hid (named_any W5 s hs hN4)
          have hRd := Lib.hid (fun W => refNamed_any W s hs)
          have hcN : IsC (namedL s) := isC_named s 23
          go_wp2_with fail
          refine hNd.out.mono ?_
          rintro e w6 ⟨rfl, b6⟩
          have hbx6 := hbx5.below b6 hbx5.lt
          have b6 := b5.trans (b6.mono b5.size)
          clear hNd hbx5 b5 hN4
          go_wp2_with (refine wpList_store_cells rfl 26 _ _ rfl rfl w6.heap.size 26 _ _ rfl rfl (heap_alloc_new w6 _) (by rw [row64_size, hcN.1]; rfl) (HZ.out _ hcN) (row64_one _) ?_)
          have hb14 := box_new w6 noneL (namedL s)
          have hbx7 := box_old hbx6 noneL (namedL s) 26
          have b7 := box_bel b6 noneL (namedL s) 26
          rw [show (#[.int .u64 0, .int .u64 0, .int .u64 0, .int .u64 0] : Array Value) = row64 noneL from rfl]
          generalize (w6.alloc (.cells (row64 noneL) 26)).setRow w6.heap.size (row64 (namedL s)) = W7 at hb14 hbx7 b7 ⊢
          generalize w6.heap.size = b14 at hb14 ⊢
          clear hbx6 b6
          refine (hRd.out W7).mono ?_
          rintro e w8 ⟨rfl, b8⟩
          have hb148 := hb14.below b8 hb14.lt
          have hbx8 := hbx7.below b8 hbx7.lt
          have b8 := b7.trans (b8.mono b7.size)
          clear hRd hb14 hbx7 b7
          go_upto_region 17 with (refine wpList_store_cells rfl 26 _ _ rfl rfl w8.heap.size 26 _ _ rfl rfl (heap_alloc_new w8 _) (by rw [row64_size, hcN.1]; rfl) (HZ.out _ hcN) (row64_one _) ?_)
          have hK : MK w ((w8.alloc (.cells (row64 noneL) 26)).setRow w8.heap.size (row64 (namedL s))) b12 b14 w8.heap.size (ofL l) (namedL s) :=
            ⟨box_old hbx8 noneL (namedL s) 26, box_old hb148 noneL (namedL s) 26, box_new w8 noneL (namedL s), box_bel b8 noneL (namedL s) 26⟩
          rw [show (#[.int .u64 0, .int .u64 0, .int .u64 0, .int .u64 0] : Array Value) = row64 noneL from rfl]
          generalize (w8.alloc (.cells (row64 noneL) 26)).setRow w8.heap.size (row64 (namedL s)) = W9 at hK ⊢
          generalize w8.heap.size = b16 at hK ⊢
          clear hb148 hbx8 b8
          generalize (!decide (namedL s = noneL)) = bb
          have hof := fun W (h : MK w W b12 b14 b16 (ofL l) (namedL s)) => refOf_any W _ l (s0.below h.bel)
          have hrg := fun W => range_any W lo hi (by omega) (by omega)
          have hrr := fun W => refRange_any W lo hi (by omega) (by omega)
          have q1' := fun W => run_eql_rowC W (ofL l) (ofL l) hcO.1 hcO.1
          have q2' := fun W => run_eql_rowC W (rangeL lo hi) (rangeL lo hi) (isC_range lo hi).1 (isC_range lo hi).1
          have q3' := fun W => run_eql_rowC W (namedL s) (namedL s) hcN.1 hcN.1
          rw [decide_eq_true rfl] at q1' q2' q3'
          obtain ⟨p0, p1, p2, p3, hp⟩ := isC_words (ofL l) hcO
          obtain ⟨r0, r1, r2, r3, hr⟩ := isC_words (namedL s) hcN
          have rp : row64 (ofL l) = #[.int .u64 (p0 : Int), .int .u64 (p1 : Int), .int .u64 (p2 : Int), .int .u64 (p3 : Int)] := by rw [hp]; rfl
          have rr : row64 (namedL s) = #[.int .u64 (r0 : Int), .int .u64 (r1 : Int), .int .u64 (r2 : Int), .int .u64 (r3 : Int)] := by rw [hr]; rfl
          rw [rp] at hof q1'
          rw [rr] at q3'
          generalize row64 (rangeL lo hi) = gr at hrg hrr q2'
          have L1 := Lib.hid (fun W (h : MK w W b12 b14 b16 (ofL l) (namedL s)) => h.a12.four hp)
          have L2 := Lib.hid (fun W (h : MK w W b12 b14 b16 (ofL l) (namedL s)) => h.a14.four hr)
          have L3 := Lib.hid (fun W (h : MK w W b12 b14 b16 (ofL l) (namedL s)) => h.a16.four hr)
          have l1_0 := fun W h => (L1.out W h).1
          have l1_1 := fun W h => (L1.out W h).2.1
          have l1_2 := fun W h => (L1.out W h).2.2.1
          have l1_3 := fun W h => (L1.out W h).2.2.2
          have l2_0 := fun W h => (L2.out W h).1
          have l2_1 := fun W h => (L2.out W h).2.1
          have l2_2 := fun W h => (L2.out W h).2.2.1
          have l2_3 := fun W h => (L2.out W h).2.2.2
          have l3_0 := fun W h => (L3.out W h).1
          have l3_1 := fun W h => (L3.out W h).2.1
          have l3_2 := fun W h => (L3.out W h).2.2.1
          have l3_3 := fun W h => (L3.out W h).2.2.2
          have hgu := fun w op x y xs ys => run_guardTC w op x y xs ys
          have HOF := Lib.hid hof
          have HRG := Lib.hid hrg
          have HRR := Lib.hid hrr
          clear hof hrg hrr hp hr rp rr hcO hcN HZ
          go_region_held3 (fun w' => MK w w' b12 b14 b16 (ofL l) (namedL s))
            (first | exact hK.below (Below.refl _ _).drew | assumption | exact MK.below (by assumption) (by assumption))
            (first | (go_at_call 9; (with_reducible refine (HOF.out _ (by assumption)).mono ?_); rintro e w' ⟨rfl, hb'⟩) | (go_at_call 10; (with_reducible refine (HRG.out _).mono ?_); rintro e w' ⟨rfl, hb'⟩) | (go_at_call 11; (with_reducible refine (HRR.out _).mono ?_); rintro e w' ⟨rfl, hb'⟩))
          rename_i hS
          have hfin := hS.bel
          clear l1_0 l1_1 l1_2 l1_3 l2_0 l2_1 l2_2 l2_3 l3_0 l3_1 l3_2 l3_3 hgu q1' q2' q3' hS hK
          go_wp2_with fail
          go_ret
          exact ⟨by simp, hfin⟩
end Go.Proofs.YtcdoliinemafaaaDoor
