/-
  galleylaw01.ClassAtoms: its walk.
-/
import Derived.Test.YtcdoliinemafaaaAtomsS
namespace Go.Proofs.Ytcdoliinemafaaa
open Go.RowKit

theorem elemCC : Try.prog.underlying 43 = some (.slice (Try.prog.elem 43)) := by kernel_rfl
theorem sizeCC (w : World) : (sizeOf (Try.prog.elem 43)).run Try.prog w = .ok 4 w := by kernel_rfl
theorem in_cutC (g n m : Nat) (h : n ≤ m) (W : World) : (Instr.slice 43 (.slice (some ⟨g, 0, none⟩) m m) none (some (.int .i64 (n : Int))) none).run Try.prog W = .ok (.slice (some ⟨g, 0, none⟩) n m) W := by
  rw [run_slice_h W 43 (some ⟨g, 0, none⟩) m m elemCC .i64 n (by omega) (by omega), sizeCC]
  simp [sliced, Addr.add, Result.andThen]

abbrev put7 (W : World) (g k : Nat) : World := (((W.setCell ⟨g, k * 4, none⟩ (.int .u64 7)).setCell ⟨g, k * 4 + 1, none⟩ (.int .u64 7)).setCell ⟨g, k * 4 + 2, none⟩ (.int .u64 7)).setCell ⟨g, k * 4 + 3, none⟩ (.int .u64 7)

/-- 9 and a number. -/
def nineC (i : Nat) (h : i < 18446744073709551616) : Cl := ⟨[9, 0, 0, i], by
  constructor
  · rfl
  · intro j; match j with | 0 => simp | 1 => simp | 2 => simp | 3 => simpa using h | n + 4 => simp⟩
theorem xor_lt (v : Nat) (h : v < 18446744073709551616) : v ^^^ 16711935 < 18446744073709551616 := by simpa using Nat.xor_lt_two_pow (n := 64) (by simpa using h) (by decide : 16711935 < 2 ^ 64)
/-- A class with a word turned. -/
def turnC (c : Cl) (j : Nat) : Cl := ⟨c.1.set (j % 4) ((c.1[j % 4]?.getD 0) ^^^ 16711935), isC_set _ _ _ c.2 (xor_lt _ (c.2.2 _))⟩
theorem ArrC.at {w : World} {g : Nat} {xs : List Cl} (h : ArrC w g xs) (k c : Nat) (hc : c < 4) (hk : k < xs.length) : w.cell? ⟨g, k * 4 + c, none⟩ = some (.int .u64 ((xs[k].1[c]?.getD 0 : Nat) : Int)) := by
  rw [cell_of_row w g _ _ _ (0, 0) h]
  have := cellsC_get xs k c hc
  rw [List.getElem?_eq_getElem hk] at this
  have h2 : (encC xs[k])[c]? = some (.int .u64 ((xs[k].1[c]?.getD 0 : Nat) : Int)) := by
    unfold encC
    rw [List.getElem?_map, List.getElem?_eq_getElem (by rw [xs[k].2.1]; exact hc)]
    rfl
  simp only [Option.bind_some, h2] at this
  simpa using this
theorem take_set_snoc {α : Type} (Y : List α) (i : Nat) (h : i < Y.length) (y : α) : (Y.set i y).take (i + 1) = Y.take i ++ [y] := by
  rw [List.take_succ_eq_append_getElem (by rw [List.length_set]; exact h), List.getElem_set_self, List.take_set_of_le (Nat.le_refl _)]
/-- All blocks below N but those of v stay. -/
def KeptBut (N : Nat) (v : Value) (W W' : World) : Prop := ∀ b, b < N → v.ownBlock ≠ some b → W'.heap[b]? = W.heap[b]?

set_option maxHeartbeats 8000000 in
set_option maxRecDepth 100000 in
theorem atoms_walk (w : World) (a0 : Option Addr) (n c0 : Nat) (cs : List Cl) (s0 : CC w (.slice a0 n c0) cs) :
    Calls Try.prog 6 #[.slice a0 n c0] w fun e w' => e = .returned (.bool true) ∧ Below w.heap.size w w' := by
  have hl := s0.len
  have HL := Lib.hid hl
  clear hl
  go_enter Try.func6, Try.ntmps6
  by_cases hbig : 65536 < n
  · go_wp2_with fail
    refine (works_any w).mono ?_
    rintro e w1 ⟨rfl, b1⟩
    go_wp2_with fail
    go_ret
    exact ⟨rfl, b1⟩
  obtain ⟨m, hm⟩ : ∃ m, m = n + 3 := ⟨_, rfl⟩
  have hmk := fun W => madeC W n m hm (by omega)
  have HM := Lib.hid hm
  have hm2 : m ≤ 65539 := by omega
  have hnm : n ≤ m := by omega
  have HCUT := Lib.hid (fun g W => in_cutC g n m hnm W)
  have HMK := Lib.hid hmk
  have hwn : IntKind.i64.wrap ((n : Int) + 3) = (n : Int) + 3 := IntWalk.i64_in _ (by omega)
  clear hm hmk
  go_wp2_with fail
  refine (works_any w).mono ?_
  rintro e w1 ⟨rfl, b1⟩
  have hmk := HMK.out
  go_upto_region 6 with fail
  have hFL : (inC cs).length = m := by rw [inC_len, HL.out, HM.out]
  have bA := below_alloc2 w1 (.cells #[.int .u64 7, .int .u64 7, .int .u64 7, .int .u64 7] 24) (.cells (cellsC (List.replicate m noneC)).toArray 24)
  have hG : ArrC ((w1.alloc (.cells #[.int .u64 7, .int .u64 7, .int .u64 7, .int .u64 7] 24)).alloc (.cells (cellsC (List.replicate m noneC)).toArray 24)) (w1.heap.size + 1) (updL (inC cs) noneC 0) := by
    rw [updL_zero, hFL]; exact heap_alloc2 w1 _ _
  have hK : Arr64 ((w1.alloc (.cells #[.int .u64 7, .int .u64 7, .int .u64 7, .int .u64 7] 24)).alloc (.cells (cellsC (List.replicate m noneC)).toArray 24)) w1.heap.size 24 mkC.1 := Arr64.alloc (Arr64.new w1 24 mkC.1) _
  replace bA := b1.trans (bA.mono b1.size)
  have hg4 := b1.size
  have HFL := Lib.hid hFL
  clear hFL hmk b1
  generalize (w1.alloc (.cells #[.int .u64 7, .int .u64 7, .int .u64 7, .int .u64 7] 24)).alloc (.cells (cellsC (List.replicate m noneC)).toArray 24) = W2 at hG hK bA ⊢
  generalize w1.heap.size = b4 at hG hK hg4 ⊢
  obtain ⟨g, hg⟩ : ∃ g, b4 + 1 = g := ⟨_, rfl⟩
  rw [hg] at hG ⊢
  have hgw : w.heap.size ≤ g := by omega
  have hg4n : b4 ≠ g := by omega
  clear hg
  go_wp2_with fail
  go_loopw [6] (fun i wr => ∃ k : Nat, k ≤ m ∧ i = .int .i64 k ∧ ArrC wr g (updL (inC cs) noneC k) ∧ Arr64 wr b4 24 mkC.1 ∧ Below w.heap.size w wr) (fun i _ => m - (intOf i).toNat)
  case atStart => exact ⟨0, Nat.zero_le _, rfl, hG, hK, bA⟩
  case round =>
    clear hG hK bA
    obtain ⟨k, hk, rfl, hG, hK, bA⟩ := hrel
    by_cases hlt : k < m
    · have hkF : k < (inC cs).length := by rw [HFL.out]; exact hlt
      have hul := updL_len (inC cs) noneC k (by omega)
      have hst := updL_step (inC cs) noneC k hkF
      obtain ⟨z0, z1, z2, z3⟩ := hK.four rfl
      obtain ⟨p0, p1, p2, p3, hp⟩ := isC_words ((updL (inC cs) noneC k)[k]'(by omega)).1 ((updL (inC cs) noneC k)[k]'(by omega)).2
      obtain ⟨c0, c1, c2, c3⟩ := hG.words k (by omega) hp
      have f0 := hG.frozen (k * 4)
      have f1 := hG.frozen (k * 4 + 1)
      have f2 := hG.frozen (k * 4 + 2)
      have f3 := hG.frozen (k * 4 + 3)
      have hG1 : ArrC (put7 wr g k) g ((updL (inC cs) noneC k).set k mkC) := hG.put k (by omega) mkC (u0 := 7) (u1 := 7) (u2 := 7) (u3 := 7) rfl
      have hK1 : Arr64 (put7 wr g k) b4 24 mkC.1 := (put4C_other wr g k b4 7 7 7 7 hg4n).trans hK
      have bA1 : Below w.heap.size w (put7 wr g k) := put4C_below bA hgw k 7 7 7 7
      have hmI : (k : Int) < (m : Int) := by omega
      have HRel : Hid (∀ wz, ArrC wz g (updL (inC cs) noneC (k + 1)) → Arr64 wz b4 24 mkC.1 → Below w.heap.size w wz → ∃ k_1 : Nat, k_1 ≤ m ∧ Value.int .i64 ((k : Int) + 1) = .int .i64 k_1 ∧ ArrC wz g (updL (inC cs) noneC k_1) ∧ Arr64 wz b4 24 mkC.1 ∧ Below w.heap.size w wz) := Lib.hid (fun wz h1 h2 h3 => ⟨k + 1, hlt, by go_num, h1, h2, h3⟩)
      by_cases hkn : k < n
      · have hkc : k < cs.length := by rw [HL.out]; exact hkn
        have hlow := inC_low cs k hkc hkF
        rw [hlow] at hst
        obtain ⟨b, o, rfl, hw⟩ := s0.words k hkc
        obtain ⟨q0, q1, q2, q3, hq⟩ := isC_words cs[k].1 cs[k].2
        obtain ⟨d0, d1, d2, d3⟩ := hw q0 q1 q2 q3 hq
        have hD : ∀ {a v}, w.cell? a = some v → (put7 wr g k).cell? a = some v := fun {a v} ha => by rw [bA1.cell (World.block_lt_of_cell? w _ ha)]; exact ha
        replace d0 := hD d0
        replace d1 := hD d1
        replace d2 := hD d2
        replace d3 := hD d3
        have hs1 : (((updL (inC cs) noneC k).set k mkC)[k]'(by rw [List.length_set]; omega)).1 = [7, 7, 7, 7] := by simp [mkC]
        obtain ⟨e0, e1, e2, e3⟩ := hG1.words k (by rw [List.length_set]; omega) hs1
        simp only [Int.cast_ofNat_Int] at e0 e1 e2 e3 z0 z1 z2 z3
        have h0 := hG1.frozen (k * 4)
        have h1 := hG1.frozen (k * 4 + 1)
        have h2 := hG1.frozen (k * 4 + 2)
        have h3 := hG1.frozen (k * 4 + 3)
        have hG2 := hG1.put k (by rw [List.length_set]; omega) cs[k] hq
        rw [List.set_set, hst] at hG2
        have hK2 : Arr64 (put4C (put7 wr g k) g k q0 q1 q2 q3) b4 24 mkC.1 := (put4C_other _ g k b4 q0 q1 q2 q3 hg4n).trans hK1
        have HR := Lib.hid (HRel.out _ hG2 hK2 (put4C_below bA1 hgw k q0 q1 q2 q3))
        clear hst hlow hw hq hD hs1 hG1 hG2 hK1 hK2 bA1 hG hK bA hp hul HRel
        go_wp2_with fail
        go_roundw
        case rel => exact HR.out
        case measure => simp [intOf]; omega
      · have hhigh := inC_high cs k (by rw [HL.out]; omega) hkF
        rw [hhigh] at hst
        rw [hst] at hG1
        have HR := Lib.hid (HRel.out _ hG1 hK1 bA1)
        clear hst hhigh hG1 hK1 bA1 hG hK bA hp hul HRel
        go_wp2_with fail
        go_roundw
        case rel => exact HR.out
        case measure => simp [intOf]; omega
    · obtain rfl : k = m := by omega
      have hG3 : ArrC wr g (inC cs) := by have := updL_all (inC cs) noneC; rw [HFL.out] at this; rw [← this]; exact hG
      clear hG
      have sI := hG3.cc k ⟨_, rfl⟩
      rw [HL.out] at sI
      have hcut := HCUT.out g
      have HDOC := Lib.hid (fun ts (h1 : ts.Perm (foldL cs)) (h2 : RiseC ts) => atoms_doc h1 h2)
      obtain ⟨A, hA⟩ : ∃ A, atomsU cs 256 = A := ⟨_, rfl⟩
      have hAl : A.length ≤ 256 := by rw [← hA]; exact atomsU_len cs 256
      rw [hA] at HDOC
      have HAU := Lib.hid hA
      clear hA hlt
      have HA1 := Lib.hid (atoms_any wr _ cs sI (by rw [HL.out]; omega))
      go_wp2_with fail
      refine HA1.out.mono ?_
      rintro e w3 ⟨va, ta, rfl, hp3, hr3, oa, b3⟩
      have hta := HDOC.out ta hp3 hr3
      rw [hta] at oa
      clear hta
      have hG4 := hG3.below b3 hG3.lt
      have sI4 := sI.below b3
      have hK4 := hK.below b3 hK.lt
      have hsz3 := b3.size
      have bA3 := bA.trans (b3.mono bA.size)
      have hgr := hG3.lt
      have h4r := hK.lt
      obtain ⟨aa, ca, rfl⟩ := oa.shape
      have HA2 := Lib.hid (atoms_any w3 _ cs sI4 (by rw [HL.out]; omega))
      clear HA1 hp3 hr3 b3 hG3 sI hK bA
      go_wp2_with fail
      refine HA2.out.mono ?_
      rintro e w4 ⟨vb, tb, rfl, hp4, hr4, ob, b4'⟩
      have htb := HDOC.out tb hp4 hr4
      rw [htb] at ob
      clear htb
      have hG5 := hG4.below b4' hG4.lt
      have hK5 := hK4.below b4' hK4.lt
      have oa4 := oa.below b4'
      have hsz4 := b4'.size
      have bA4 := bA3.trans (b4'.mono bA3.size)
      have hAA := fun g' (hg' : Value.ownBlock _ = some g') => oa.blk hg'
      obtain ⟨ab, cb, rfl⟩ := ob.shape
      have HA3 := Lib.hid (refAtoms_any w4 _ cs (s0.below bA4) (by rw [HL.out]; omega))
      clear HA2 hp4 hr4 b4' hG4 hK4 oa bA3 sI4
      go_wp2_with fail
      refine HA3.out.mono ?_
      rintro e w5 ⟨vw, rfl, ow, b5⟩
      rw [HAU.out] at ow
      have hG6 := hG5.below b5 hG5.lt
      have hK6 := hK5.below b5 hK5.lt
      have oa5 := oa4.below b5
      have ob5 := ob.below b5
      have hsz5 := b5.size
      have bA5 := bA4.trans (b5.mono bA4.size)
      have hBB := fun g' (hg' : Value.ownBlock _ = some g') => ob.blk hg'
      have hWW := fun g' (hg' : Value.ownBlock _ = some g') => ow.blk hg'
      obtain ⟨aw, cw, rfl⟩ := ow.shape
      clear HA3 b5 hG5 hK5 oa4 ob bA4
      -- what the first look asks
      have Q1 := Lib.hid (fun q => sameClasses_q w5 _ _ _ oa5.cc ow.cc (by omega) q)
      have Q2 := Lib.hid (fun q => sameClasses_q w5 _ _ _ ob5.cc ow.cc (by omega) q)
      have sI6 := hG6.cc k ⟨_, rfl⟩
      rw [HL.out] at sI6
      have Q3 := Lib.hid (fun q => sameClasses_q w5 _ _ _ sI6 (s0.below bA5) (by rw [HL.out]; omega) q)
      have hm1 := inC_high cs n (by rw [HL.out]; exact Nat.le_refl _) (by rw [inC_len, HL.out]; omega)
      have hm2' := inC_high cs (n + 2) (by rw [HL.out]; omega) (by rw [inC_len, HL.out]; omega)
      obtain ⟨x0, x1, x2, x3⟩ := hG6.words n (by rw [inC_len, HL.out]; omega) (p0 := 7) (p1 := 7) (p2 := 7) (p3 := 7) (by rw [hm1]; rfl)
      obtain ⟨y0, y1, y2, y3⟩ := hG6.words (n + 2) (by rw [inC_len, HL.out]; omega) (p0 := 7) (p1 := 7) (p2 := 7) (p3 := 7) (by rw [hm2']; rfl)
      obtain ⟨z0, z1, z2, z3⟩ := hK6.four rfl
      simp only [Int.cast_ofNat_Int] at x0 x1 x2 x3 y0 y1 y2 y3 z0 z1 z2 z3
      have e7 : ∀ W : World, (binOp .neq 24 (.agg #[.int .u64 7, .int .u64 7, .int .u64 7, .int .u64 7]) (.agg #[.int .u64 7, .int .u64 7, .int .u64 7, .int .u64 7])).run Try.prog W = .ok (.bool false) W := fun W => run_neq_rowC W [7, 7, 7, 7] [7, 7, 7, 7] rfl rfl
      have hgu := fun w op x y xs ys => run_guardTC w op x y xs ys
      have hmn : (n : Int) + 2 < (k : Int) := by have := HM.out; omega
      have hmn2 : (n : Int) < (k : Int) := by have := HM.out; omega
      have hwn2 : IntKind.i64.wrap ((n : Int) + 2) = (n : Int) + 2 := IntWalk.i64_in _ (by omega)
      have hd1 : decide (n < k) = true := decide_eq_true (by omega)
      obtain ⟨mA, hmA⟩ : ∃ mA, A.length = mA := ⟨_, rfl⟩
      rw [hmA] at hAl Q1 Q2
      have HMA := Lib.hid hmA
      rw [hmA]
      have HAA := Lib.hid hAA
      have HBB := Lib.hid hBB
      have HWW := Lib.hid hWW
      clear hm1 hm2' sI6 hmA hAA hBB hWW
      go_wp2_with fail
      go_quiet (first | (go_at_call 28; with_reducible exact Q1.out _) | (go_at_call 28; with_reducible exact Q2.out _) | (go_at_call 28; with_reducible exact Q3.out _))
      rename_i nq
      have oa6 := oa5.below (below_drewN (Below.refl _ w5) nq)
      have ob6 := ob5.below (below_drewN (Below.refl _ w5) nq)
      have ow6 := ow.below (below_drewN (Below.refl _ w5) nq)
      have hG7 : ArrC (w5.drewN nq) g (inC cs) := hG6
      have hK7 : Arr64 (w5.drewN nq) b4 24 mkC.1 := hK6
      have bA6 := below_drewN bA5 nq
      have hsz6 : (w5.drewN nq).heap.size = w5.heap.size := by simp
      rw [HMA.out] at oa6 ob6 ow6
      generalize w5.drewN nq = w6 at oa6 ob6 ow6 hG7 hK7 bA6 hsz6 ⊢
      have HAA := HAA
      rw [HMA.out] at HAA HBB HWW
      clear x0 x1 x2 x3 y0 y1 y2 y3 z0 z1 z2 z3 e7 hgu hwn2 hmn hmn2 Q1 Q2 Q3 hG6 hK6 bA5 oa5 ob5 ow hcut
      generalize wr.heap.size = B1 at hsz3 hgr h4r HAA oa6
      clear HCUT HMK
      go_wp2_with fail
      go_loopw [10] (fun i wr2 => ∃ (j : Nat) (X : List Cl), j ≤ mA ∧ i = .int .i64 j ∧ X.length = mA ∧ OwnCs wr2 B1 (.slice aa mA ca) X ∧ Hid (KeptBut w6.heap.size (.slice aa mA ca) w6 wr2) ∧ Below w.heap.size w wr2 ∧ wr2.heap.size = w6.heap.size) (fun i _ => mA - (intOf i).toNat)
      case atStart => exact ⟨0, A, Nat.zero_le _, rfl, HMA.out, oa6, Lib.hid (fun _ _ _ => rfl), bA6, rfl⟩
      case round =>
        clear oa6 bA6
        obtain ⟨j, X, hj, rfl, hXl, ox, HK2, bW, hszw⟩ := hrel
        by_cases hlj : j < mA
        · have hjX : j < X.length := by omega
          obtain ⟨ga, rfl, hga1, hga2⟩ := ox.some (by omega)
          obtain ⟨⟨p0, p1, p2, p3, k0, k1, k2, k3⟩, hf⟩ := ox.cells j hjX
          have f0 := hf (j * 4)
          have f1 := hf (j * 4 + 1)
          have f2 := hf (j * 4 + 2)
          have f3 := hf (j * 4 + 3)
          have hput : OwnCs ((((wr.setCell ⟨ga, j * 4, none⟩ (.int .u64 9)).setCell ⟨ga, j * 4 + 1, none⟩ (.int .u64 0)).setCell ⟨ga, j * 4 + 2, none⟩ (.int .u64 0)).setCell ⟨ga, j * 4 + 3, none⟩ (.int .u64 (j : Int))) B1 (.slice (some ⟨ga, 0, none⟩) mA ca) (X.set j (nineC j (by omega))) := ox.put j hjX (nineC j (by omega)) (u0 := 9) (u1 := 0) (u2 := 0) (u3 := j) rfl
          have hkp : KeptBut w6.heap.size (.slice (some ⟨ga, 0, none⟩) mA ca) w6 ((((wr.setCell ⟨ga, j * 4, none⟩ (.int .u64 9)).setCell ⟨ga, j * 4 + 1, none⟩ (.int .u64 0)).setCell ⟨ga, j * 4 + 2, none⟩ (.int .u64 0)).setCell ⟨ga, j * 4 + 3, none⟩ (.int .u64 (j : Int))) := fun b hb hne =>
            (put4C_other wr ga j b 9 0 0 j (fun e => hne (by rw [e]; rfl))).trans (HK2.out b hb hne)
          have hbl : Below w.heap.size w ((((wr.setCell ⟨ga, j * 4, none⟩ (.int .u64 9)).setCell ⟨ga, j * 4 + 1, none⟩ (.int .u64 0)).setCell ⟨ga, j * 4 + 2, none⟩ (.int .u64 0)).setCell ⟨ga, j * 4 + 3, none⟩ (.int .u64 (j : Int))) := put4C_below bW (by omega) j 9 0 0 j
          have hszn : ((((wr.setCell ⟨ga, j * 4, none⟩ (.int .u64 9)).setCell ⟨ga, j * 4 + 1, none⟩ (.int .u64 0)).setCell ⟨ga, j * 4 + 2, none⟩ (.int .u64 0)).setCell ⟨ga, j * 4 + 3, none⟩ (.int .u64 (j : Int))).heap.size = w6.heap.size := (put4C_size wr ga j 9 0 0 j).trans hszw
          have hwj : IntKind.u64.wrap (j : Int) = (j : Int) := IntWalk.u64_in _ (by omega)
          have HP := Lib.hid hput
          have HKP := Lib.hid hkp
          have HBL := Lib.hid hbl
          have HSZ := Lib.hid hszn
          have HXL := Lib.hid hXl
          clear hf hput hkp hbl hszn ox HK2 bW
          go_wp2_with fail
          go_roundw
          case rel => exact ⟨j + 1, _, hlj, by go_num, by rw [List.length_set]; exact HXL.out, HP.out, HKP, HBL.out, HSZ.out⟩
          case measure => simp [intOf]; omega
        · obtain rfl : j = mA := by omega
          obtain ⟨wa, rfl⟩ : ∃ W, W = wr := ⟨_, rfl⟩
          have hwB : w.heap.size ≤ B1 := by omega
          have hBN : B1 ≤ w6.heap.size := by omega
          have hb4 : (Value.slice aa j ca).ownBlock ≠ some b4 := fun e => by have := (HAA b4 e).1; omega
          have HB4 := Lib.hid hb4
          have HX := Lib.hid hXl
          clear hb4 hXl hlj
          go_wp2_with fail
          go_loopw [11, 12] (fun v11 i wr3 => ∃ (t : Nat) (X3 : List Cl), t ≤ 70 ∧ i = .int .i64 t ∧ Hid (X3.length = j + t) ∧ OwnCs wr3 B1 v11 X3 ∧ Hid (KeptBut w6.heap.size (.slice aa j ca) w6 wr3) ∧ Hid (∀ k, v11.ownBlock = some k → (Value.slice aa j ca).ownBlock = some k ∨ w6.heap.size ≤ k) ∧ Below w.heap.size w wr3 ∧ w6.heap.size ≤ wr3.heap.size) (fun _ i _ => 70 - (intOf i).toNat)
          case atStart => exact ⟨0, X, Nat.zero_le _, rfl, HX, ox, HK2, Lib.hid (fun k hk => .inl hk), bW, by omega⟩
          case round =>
            clear ox HK2 bW
            obtain ⟨t, X3, ht, rfl, HX3, ox3, HK3, HN3, bW3, hsz3'⟩ := hrel
            by_cases hlt3 : t < 70
            · obtain ⟨a3, c3, rfl⟩ := ox3.shape
              have hKw : Arr64 wr b4 24 mkC.1 := (HK3.out b4 (by omega) HB4.out).trans hK7
              obtain ⟨z0, z1, z2, z3⟩ := hKw.four rfl
              simp only [Int.cast_ofNat_Int] at z0 z1 z2 z3
              have HC1 : Hid (#[Value.int .u64 7, .int .u64 7, .int .u64 7, .int .u64 7] = (cellsC [mkC]).toArray) := Lib.hid rfl
              have hx3 : X3.length ≤ 4398046511103 := by have := HX3.out; omega
              have hb3 : B1 ≤ wr.heap.size := by omega
              generalize hxl : X3.length = l3 at hx3 ⊢
              have HXL3 := Lib.hid hxl
              clear hxl hKw
              rw [HXL3.out] at ox3 HN3
              go_wp2_with (at_builtin; refine append_cs rfl (.tmp 117) (.tmp 119) rfl B1 _ X3 [mkC] 1 rfl _ HC1.out rfl ox3 rfl (by rw [HXL3.out]; omega) hb3 ?_)
              intro v' w9 ho9 hA9
              have rb9 := hA9.bel _ _ bW3 hwB
              have hk9 : KeptBut w6.heap.size (.slice aa j ca) w6 w9 := fun b hb hne =>
                (hA9.block b (by omega) (fun e => (HN3.out b e).elim hne (fun h => by omega))).trans (HK3.out b hb hne)
              have hn9 : ∀ k, v'.ownBlock = some k → (Value.slice aa j ca).ownBlock = some k ∨ w6.heap.size ≤ k := fun k hk => by
                rcases hA9.new k hk with h | h
                · exact HN3.out k h
                · exact .inr (by omega)
              have hs9 := hA9.size
              have HO9 := Lib.hid ho9
              have HK9 := Lib.hid hk9
              have HN9 := Lib.hid hn9
              have hs9' : w6.heap.size ≤ w9.heap.size := by omega
              have HL9 : Hid ((X3 ++ [mkC]).length = j + (t + 1)) := Lib.hid (by rw [List.length_append, HX3.out]; simp; omega)
              clear ho9 hk9 hn9 hA9 ox3 HK3 HN3 bW3 z0 z1 z2 z3 hs9
              go_wp2_with fail
              go_roundw
              case rel => exact ⟨t + 1, _, hlt3, by go_num, HL9, HO9.out, HK9, HN9, rb9, hs9'⟩
              case measure => simp [intOf]; omega
            · obtain rfl : t = 70 := by omega
              obtain ⟨wb, rfl⟩ : ∃ W, W = wr := ⟨_, rfl⟩
              obtain ⟨a3, c3, rfl⟩ := ox3.shape
              have hGb : ArrC wb g (inC cs) := hG7.kept (HK3.out g (by omega) (fun e => by have := (HAA g e).1; omega))
              have hobb : OwnCs wb w3.heap.size (.slice ab j cb) A := ob6.kept (fun b hb => HK3.out b (by have := (HBB b hb).2; omega) (fun e => by have := (HAA b e).2; have := (HBB b hb).1; omega))
              have howb : OwnCs wb w4.heap.size (.slice aw j cw) A := ow6.kept (fun b hb => HK3.out b (by have := (HWW b hb).2; omega) (fun e => by have := (HAA b e).2; have := (HWW b hb).1; omega))
              have hx70 := HX3.out
              rw [hx70]
              have Q1 := Lib.hid (fun W (hb : Below wb.heap.size wb W) => sameClasses_yes W _ _ _ (hobb.below hb).cc (howb.below hb).cc (by rw [HMA.out]; omega))
              have sIb := hGb.cc k ⟨_, rfl⟩
              rw [HL.out] at sIb
              have Q2 := Lib.hid (fun W (hb : Below wb.heap.size wb W) => sameClasses_yes W _ _ _ (sIb.below hb) ((s0.below bW3).below hb) (by rw [HL.out]; omega))
              have hcutb := in_cutC g n k hnm
              have Q1' := Lib.hid (Q1.out wb (Below.refl _ _))
              clear sIb hobb howb hx70 Q1 HK3 HN3 ox3 ob6 ow6 hG7 hK7
              go_wp2_with fail
              refine Q1'.out.mono ?_
              rintro e wc ⟨rfl, q1, rfl⟩
              have Q2' := Lib.hid (Q2.out (wb.drewN q1) (below_drewN (Below.refl _ _) q1))
              clear Q2 Q1'
              go_wp2_with fail
              refine Q2'.out.mono ?_
              rintro e wc ⟨rfl, q2, rfl⟩
              rw [World.drewN_drewN]
              have hGc : ArrC (wb.drewN (q1 + q2)) g (inC cs) := hGb
              have bC := below_drewN bW3 (q1 + q2)
              generalize wb.drewN (q1 + q2) = wc at hGc bC ⊢
              clear Q2' hGb bW3 hcutb
              go_wp2_with fail
              have hgc := hGc.lt
              have hik : (inC cs).length = k := HFL.out
              have hBc : w.heap.size ≤ wc.heap.size := bC.size
              generalize hB3 : wc.heap.size = B3 at hgc hBc
              go_loopw [13, 14] (fun v13 i wr4 => ∃ (t : Nat) (Y : List Cl), t ≤ n ∧ i = .int .i64 t ∧ Hid (Y.length = k) ∧ ArrC wr4 g Y ∧ OwnCs wr4 B3 v13 (Y.take t) ∧ Below w.heap.size w wr4 ∧ B3 ≤ wr4.heap.size) (fun _ i _ => n - (intOf i).toNat)
              case atStart => exact ⟨0, inC cs, Nat.zero_le _, rfl, Lib.hid hik, hGc, World.ownsRow_nil _ _ _ _, bC, by omega⟩
              case round =>
                clear hGc bC hik
                obtain ⟨t, Y, ht, rfl, HY, hG, oO, bW, hszw⟩ := hrel
                by_cases htn : t < n
                · have hty : t < Y.length := by rw [HY.out]; omega
                  have hc4 : t % 4 < 4 := by omega
                  have c0 := hG.at t (t % 4) hc4 hty
                  have f0 := hG.frozen (t * 4 + t % 4)
                  have hGt := hG.word t (t % 4) hc4 hty (turnC Y[t] t) (Y[t].1[t % 4]?.getD 0 ^^^ 16711935) rfl
                  have hv := Y[t].2.2 (t % 4)
                  have hxo : bits .xor .u64 ((Y[t].1[t % 4]?.getD 0 : Nat) : Int) 16711935 = ((Y[t].1[t % 4]?.getD 0 ^^^ 16711935 : Nat) : Int) := u64_xor_nat _ 16711935 hv (by decide)
                  generalize hyy : turnC Y[t] t = y at hGt
                  generalize Y[t].1[t % 4]?.getD 0 ^^^ 16711935 = vx at hGt hxo
                  generalize Y[t].1[t % 4]?.getD 0 = v0 at c0 hxo hv
                  obtain ⟨a3', c3', hv13⟩ := oO.shape
                  subst hv13
                  have hD2 : ((t : Int)).tmod 4 = ((t % 4 : Nat) : Int) := by rw [Int.tmod_eq_emod_of_nonneg (by omega)]; rfl
                  have hD4 : IntKind.i64.wrap ((t : Int) % 4) = (t : Int) % 4 := IntWalk.i64_in _ (by omega)
                  have hD6 : ((t : Int) % 4).toNat = t % 4 := by omega
                  have hD8 : (t : Int) % 4 < 4 := by omega
                  have hD9 : (0 : Int) ≤ (t : Int) % 4 := by omega
                  have htk : (t : Int) < (k : Int) := by omega
                  have htk2 : t < k := by omega
                  have HGT := Lib.hid hGt
                  have HYY := Lib.hid hyy
                  clear hGt hyy hv
                  go_upto_region 32 with fail
                  have hlt4 : (Y.take t).length = t := by rw [List.length_take]; omega
                  rw [hlt4] at oO ⊢
                  have oO2 : OwnCs ((wr.setCell ⟨g, t * 4 + t % 4, none⟩ (.int .u64 (vx : Int))).drew) B3 (.slice a3' t c3') (Y.take t) :=
                    oO.kept (fun b hb => heap_setCell_other wr ⟨g, t * 4 + t % 4, none⟩ b _ (by have := (oO.blk hb).1; show b ≠ g; omega))
                  have bW2 : Below w.heap.size w ((wr.setCell ⟨g, t * 4 + t % 4, none⟩ (.int .u64 (vx : Int))).drew) := (bW.setCell hgw _).drew
                  have hG2 : ArrC ((wr.setCell ⟨g, t * 4 + t % 4, none⟩ (.int .u64 (vx : Int))).drew) g (Y.set t y) := HGT.out
                  have hsz2 : B3 ≤ ((wr.setCell ⟨g, t * 4 + t % 4, none⟩ (.int .u64 (vx : Int))).drew).heap.size := by simpa using hszw
                  go_region_with (fail)
                  all_goals
                    generalize (wr.setCell ⟨g, t * 4 + t % 4, none⟩ (.int .u64 (vx : Int))).drew = w10 at oO2 bW2 hG2 hsz2 ⊢
                    obtain ⟨u0, u1, u2, u3, hu⟩ := isC_words y.1 y.2
                    obtain ⟨x0, x1, x2, x3⟩ := hG2.words t (by rw [List.length_set]; exact hty) (p0 := u0) (p1 := u1) (p2 := u2) (p3 := u3) (by rw [List.getElem_set_self]; exact hu)
                    have HC1 : Hid (#[Value.int .u64 (u0 : Int), .int .u64 (u1 : Int), .int .u64 (u2 : Int), .int .u64 (u3 : Int)] = (cellsC [y]).toArray) := Lib.hid (by unfold cellsC; rw [List.flatMap_cons, cells_of _ hu]; rfl)
                    have HY2 : Hid ((Y.set t y).length = k) := Lib.hid (by rw [List.length_set]; exact HY.out)
                    have HT2 := Lib.hid (take_set_snoc Y t hty y)
                    have HLT := Lib.hid hlt4
                    clear hu c0 f0 hxo hD2 hD4 hD6 hD8 hD9 hlt4 oO bW hG HGT
                    go_wp2_with (at_builtin; refine append_cs rfl (.tmp 162) (.tmp 167) rfl B3 _ (Y.take t) [y] 1 rfl _ HC1.out rfl oO2 rfl (by rw [HLT.out]; omega) hsz2 ?_)
                    intro v' w11 ho11 hA11
                    rw [← HT2.out] at ho11
                    have hG11 := hG2.kept (hA11.block g hG2.lt (fun e => by have := (oO2.blk e).1; omega))
                    have bW11 := hA11.bel _ _ bW2 hBc
                    have hs11 : B3 ≤ w11.heap.size := Nat.le_trans hsz2 hA11.size
                    have HO11 := Lib.hid ho11
                    have HG11 := Lib.hid hG11
                    have HW11 := Lib.hid bW11
                    clear ho11 hG11 bW11 hA11 oO2 bW2 hG2 x0 x1 x2 x3
                    go_wp2_with fail
                    go_roundw
                    case rel => exact ⟨t + 1, _, htn, by go_num, HY2, HG11.out, HO11.out, HW11.out, hs11⟩
                    case measure => simp [intOf]; omega
                · obtain rfl : t = n := by omega
                  have hlt4 : (Y.take t).length = t := by rw [List.length_take, HY.out]; omega
                  have sIY : CC wr (.slice (some ⟨g, 0, none⟩) (Y.take t).length k) (Y.take t) := hG.cc k ⟨Y.drop t, (List.take_append_drop t Y).symm⟩
                  obtain ⟨a3', c3', hv13⟩ := oO.shape
                  subst hv13
                  rw [hlt4] at oO sIY ⊢
                  have hcutb := in_cutC g t k hnm
                  have HA4 := Lib.hid (atoms_any wr _ (Y.take t) sIY (by rw [hlt4]; omega))
                  have HLT := Lib.hid hlt4
                  clear hlt4 htn hG
                  go_wp2_with fail
                  refine HA4.out.mono ?_
                  rintro e wd ⟨vd, td, rfl, hpd, hrd, od, bd⟩
                  have htd := atoms_doc hpd hrd
                  rw [htd] at od
                  have bWd := bW.trans (bd.mono bW.size)
                  have oOd := oO.below bd
                  have HA5 := Lib.hid (refAtoms_any wd _ (Y.take t) oOd.cc (by rw [HLT.out]; omega))
                  obtain ⟨ad, cd, rfl⟩ := od.shape
                  clear HA4 htd hpd hrd bd bW oO hcutb sIY
                  go_wp2_with fail
                  refine HA5.out.mono ?_
                  rintro e we ⟨ve, rfl, oe, be⟩
                  have bWe := bWd.trans (be.mono bWd.size)
                  have ode := od.below be
                  have hle : (atomsU (Y.take t) 256).length ≤ 256 := atomsU_len _ _
                  obtain ⟨ae, ce, rfl⟩ := oe.shape
                  have Q5 := Lib.hid (sameClasses_yes we _ _ _ ode.cc oe.cc (by omega))
                  clear HA5 be bWd od oe ode oOd
                  go_wp2_with fail
                  refine Q5.out.mono ?_
                  rintro e wf ⟨rfl, q, rfl⟩
                  have bWf := below_drewN bWe q
                  clear Q5 bWe
                  go_wp2_with fail
                  go_ret
                  exact ⟨rfl, bWf⟩
end Go.Proofs.Ytcdoliinemafaaa
