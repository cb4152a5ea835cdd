/-
  galleyref15.New: the document's answer.
-/
import Derived.Test.YtmmnebejmfmeeaaNew
import Derived.RegionTactic
namespace Go.Proofs.Ytmmnebejmfmeeaa
open Go.RowKit

set_option maxHeartbeats 400000 in
set_option maxRecDepth 100000 in
theorem same_any (w : World) :
    Calls Try.prog 25 #[] w fun e w' => e = .returned (.agg (row iden)) ∧ Below w.heap.size w w' := by
  have hz := zeroT
  have h0 : Arr ((w.alloc (.cells (row zrow) 27)).alloc (.cells (row zrow) 27)) w.heap.size 27 zrow := (Arr.new _ _ _).alloc _
  have h1 : Arr ((w.alloc (.cells (row zrow) 27)).alloc (.cells (row zrow) 27)) (w.heap.size + 1) 27 zrow := by
    have := Arr.new (w.alloc (.cells (row zrow) 27)) 27 zrow
    rwa [World.size_alloc] at this
  have hb : Below w.heap.size w ((w.alloc (.cells (row zrow) 27)).alloc (.cells (row zrow) 27)) := ((Below.refl _ w).alloc (Nat.le_refl _) _).alloc (by simp) _
  go_enter Try.func25, Try.ntmps25
  go_wp2
  go_loopw [2] (fun i wr => ∃ (k : Nat) (l : List Int), k ≤ 256 ∧ i = .int .i64 k ∧ l.length = 256 ∧ (∀ j : Nat, j < k → l[j]?.getD 0 = (j : Int)) ∧
    Arr wr w.heap.size 27 zrow ∧ Arr wr (w.heap.size + 1) 27 l ∧ Below w.heap.size w wr) (fun i _ => 256 - (intOf i).toNat)
  case atStart => exact ⟨0, zrow, Nat.zero_le _, rfl, zrow_len, fun j hj => by omega, h0, h1, hb⟩
  case round =>
    obtain ⟨k, l, hk, rfl, hll, hlj, ha0, ha1, hbl⟩ := hrel
    have HLL := Lib.hid hll
    have HLJ := Lib.hid hlj
    clear hll hlj h0 h1 hb
    by_cases hlt : k < 256
    · have hc := ha1.cell k (by rw [HLL.out]; exact hlt)
      have hf := ha1.frozen k
      have hlt' : (k : Int) < 256 := by omega
      go_wp2
      go_roundw
      case rel =>
        refine ⟨k + 1, l.set k k, by omega, by go_num, by rw [List.length_set, HLL.out], fun j hj => ?_, ha0.other _ (by simp) _, ha1.set _ _, hbl.setCell (by simp) _⟩
        rw [List.getElem?_set]
        split
        · subst_vars
          rw [if_pos (by rw [HLL.out]; exact hlt)]; rfl
        · exact HLJ.out j (by omega)
      case measure => simp [intOf]; omega
    · have hk' : 256 ≤ k := by omega
      have hi : (Try.prog.info? 27).map (·.size) = some (row l).size := by rw [row_size, HLL.out]; exact infoT
      have Hi := Lib.hid hi
      clear hi hz
      go_wp2_with (first | (refine wpList_load_row rfl 27 _ rfl (w.heap.size + 1) rfl 27 _ (0, 0) _ ha1 Try.underlying27 rfl Hi.out ?_) | (refine wpList_store_row rfl 27 _ _ rfl rfl w.heap.size 27 _ _ rfl rfl ha0 (by rw [row_size, row_size, HLL.out]; rfl) Hi.out (row_one _) ?_))
      exact ret_row (l := l) rfl rfl ha0.setRow Try.underlying27 rfl (by rw [HLL.out]; exact infoT) rfl ⟨by rw [iden_of l HLL.out (fun j hj => HLJ.out j (by omega))], below_setRow hbl (Nat.le_refl _) _⟩

/-- More than 256 bytes: one stands twice. -/
theorem short_of_nodup : ∀ (m : Nat) (l : List Int), l.Nodup → (∀ x ∈ l, 0 ≤ x ∧ x < m) → l.length ≤ m
  | 0, l, _, h => by
    cases l with
    | nil => simp
    | cons x l => have := h x (by simp); omega
  | m + 1, l, hn, h => by
    by_cases hm : (m : Int) ∈ l
    · have h1 := short_of_nodup m (l.erase m) (hn.erase _) (fun x hx => by
        have h2 := h x (List.mem_of_mem_erase hx)
        have h3 : x ≠ m := fun e => by subst e; exact (List.Nodup.not_mem_erase hn) hx
        omega)
      have := List.length_erase_of_mem hm
      have : 0 < l.length := List.length_pos_of_mem hm
      omega
    · have := short_of_nodup m l hn (fun x hx => by
        have h2 := h x hx
        have h3 : x ≠ m := fun e => hm (e ▸ hx)
        omega)
      omega
theorem not_nodup_long (l : List Int) (hB : IsB l) (hl : 256 < l.length) : ¬ l.Nodup := fun hn => by
  have := short_of_nodup 256 l hn (fun x hx => by
    obtain ⟨i, hi, rfl⟩ := List.getElem_of_mem hx
    have := hB i
    rw [List.getElem?_eq_getElem hi] at this
    simp only [Option.getD_some] at this
    omega)
  omega

set_option maxHeartbeats 400000 in
set_option maxRecDepth 100000 in
theorem refNew_unlike (w : World) (a b : List Int) (va vb : Value) (ha : SB w va a) (hb : SB w vb b) (hne : a.length ≠ b.length) :
    Calls Try.prog 12 #[va, vb] w fun e w' => e = .returned (newOut a b) ∧ Below w.heap.size w w' := by
  rw [newOut_unlike a b hne]
  obtain ⟨hA, aa, ca, rfl, hla, hca⟩ := ha
  obtain ⟨hB, ab, cb, rfl, hlb, hcb⟩ := hb
  have hz := zeroT
  have hbu := buildT
  have hnb : ((a.length : Int) != (b.length : Int)) = true := by rw [bne_iff_ne]; omega
  have h0 : Arr (w.alloc (.cells (row zrow) 27)) w.heap.size 27 zrow := Arr.new _ _ _
  have hbe : Below w.heap.size w (w.alloc (.cells (row zrow) 27)) := (Below.refl _ w).alloc (Nat.le_refl _) _
  clear hne hca hcb
  go_enter Try.func12, Try.ntmps12
  go_wp2_with (refine wpList_store_row rfl 27 _ _ rfl rfl w.heap.size 27 _ _ rfl rfl h0 rfl (by rw [row_size]; exact infoT) (row_one _) ?_)
  exact ret_row_tmp (l := zrow) rfl rfl h0.setRow Try.underlying27 rfl infoT rfl ⟨rfl, below_setRow hbe (Nat.le_refl _) _⟩

set_option maxHeartbeats 400000 in
set_option maxRecDepth 100000 in
theorem refNew_long (w : World) (a b : List Int) (va vb : Value) (ha : SB w va a) (hb : SB w vb b) (heq : a.length = b.length) (hlong : 256 < a.length) :
    Calls Try.prog 12 #[va, vb] w fun e w' => e = .returned (newOut a b) ∧ Below w.heap.size w w' := by
  rw [newOut_dup a b (not_nodup_long a ha.1 hlong)]
  obtain ⟨hA, aa, ca, rfl, hla, hca⟩ := ha
  obtain ⟨hB, ab, cb, rfl, hlb, hcb⟩ := hb
  have hz := zeroT
  have hbu := buildT
  have hnb : ((a.length : Int) != (b.length : Int)) = false := by rw [bne_eq_false_iff_eq]; omega
  have hgt : (256 : Int) < (a.length : Int) := by omega
  have h0 : Arr (w.alloc (.cells (row zrow) 27)) w.heap.size 27 zrow := Arr.new _ _ _
  have hbe : Below w.heap.size w (w.alloc (.cells (row zrow) 27)) := (Below.refl _ w).alloc (Nat.le_refl _) _
  clear heq hca hcb
  go_enter Try.func12, Try.ntmps12
  go_wp2_with (refine wpList_store_row rfl 27 _ _ rfl rfl w.heap.size 27 _ _ rfl rfl h0 rfl (by rw [row_size]; exact infoT) (row_one _) ?_)
  exact ret_row_tmp (l := zrow) rfl rfl h0.setRow Try.underlying27 rfl infoT rfl ⟨rfl, below_setRow hbe (Nat.le_refl _) _⟩

theorem mem_take_of (l : List Int) (j k : Nat) (hj : j < k) (hk : k ≤ l.length) : l[j]?.getD 0 ∈ l.take k := by
  have h : j < (l.take k).length := by simp; omega
  have : (l.take k)[j] = l[j]?.getD 0 := by simp [List.getElem?_eq_getElem (show j < l.length by omega)]
  rw [← this]
  exact List.getElem_mem h
theorem not_mem_take (l : List Int) (x : Int) (k : Nat) (hk : k ≤ l.length) (h : ∀ j : Nat, j < k → l[j]?.getD 0 ≠ x) : x ∉ l.take k := by
  intro hx
  obtain ⟨i, hi, e⟩ := List.getElem_of_mem hx
  have hi' : i < k := by simp at hi; omega
  apply h i hi'
  rw [List.getElem?_eq_getElem (by omega)]
  simpa using e

set_option maxHeartbeats 1000000 in
set_option maxRecDepth 100000 in
theorem refNew_like (w : World) (a b : List Int) (va vb : Value) (ha : SB w va a) (hb : SB w vb b) (heq : a.length = b.length) (hsh : a.length ≤ 256) :
    Calls Try.prog 12 #[va, vb] w fun e w' => e = .returned (newOut a b) ∧ Below w.heap.size w w' := by
  obtain ⟨hA, aa, ca, rfl, hla, hca⟩ := ha
  obtain ⟨hB, ab, cb, rfl, hlb, hcb⟩ := hb
  have hz := zeroT
  have hbu := buildT
  have hnb : ((a.length : Int) != (b.length : Int)) = false := by rw [bne_eq_false_iff_eq]; omega
  have hgt : ¬ (256 : Int) < (a.length : Int) := by omega
  have h0 : Arr (w.alloc (.cells (row zrow) 27)) w.heap.size 27 zrow := Arr.new _ _ _
  have hbe : Below w.heap.size w (w.alloc (.cells (row zrow) 27)) := (Below.refl _ w).alloc (Nat.le_refl _) _
  have hl1 : a.length ≤ b.length := by omega
  have hl2 : b.length ≤ a.length := by omega
  have HCA := Lib.hid hca
  have HCB := Lib.hid hcb
  have HA := Lib.hid hA
  clear hca hcb heq hA
  go_enter Try.func12, Try.ntmps12
  go_wp2_with fail
  refine (same_any _).mono ?_
  rintro e w1 ⟨rfl, hb1⟩
  rw [World.size_alloc] at hb1
  have hs1 : w.heap.size < w1.heap.size := by have := hb1.size; rw [World.size_alloc] at this; omega
  have h0 := h0.below hb1 (by omega)
  have hbe := hbe.trans (hb1.mono (by omega))
  have h6 : Arr (w1.alloc (.cells (row zrow) 27)) w1.heap.size 27 zrow := Arr.new _ _ _
  go_wp2_with (refine wpList_store_row rfl 27 _ _ rfl rfl w1.heap.size 27 _ _ rfl rfl h6 (by rw [row_size, row_size, iden_len]; rfl) (by rw [row_size, iden_len]; exact infoT) (row_one _) ?_)
  obtain ⟨hb2, g6, _⟩ := box_row w1 27 zrow iden
  have g0 := h0.below hb2 h0.lt
  have gb := hbe.trans (hb2.mono hbe.size)
  clear h0 h6 hbe hb1 hb2
  generalize (w1.alloc (.cells (row zrow) 27)).setRow w1.heap.size (row iden) = W0 at g0 g6 gb ⊢
  generalize w1.heap.size = g at g6 hs1 ⊢
  go_loopw [7] (fun i wr => ∃ k : Nat, k ≤ a.length ∧ i = .int .i64 k ∧ (a.take k).Nodup ∧
    Arr wr w.heap.size 27 zrow ∧ Arr wr g 27 (newT a b k) ∧ Below w.heap.size w wr) (fun i _ => a.length - (intOf i).toNat)
  case atStart => exact ⟨0, Nat.zero_le _, rfl, by simp, g0, g6, gb⟩
  case round =>
    obtain ⟨k, hk, rfl, hnd, r0, r6, rb⟩ := hrel
    have HND := Lib.hid hnd
    clear hnd g0 g6 gb
    by_cases hlt : k < a.length
    · obtain ⟨ba, oa, rfl, hc⟩ := HCA.out.resolve_left (by intro e; rw [e] at hlt; exact absurd hlt (Nat.not_lt_zero _))
      obtain ⟨bb, ob, rfl, hd⟩ := HCB.out.resolve_left (by intro e; rw [e] at hl1; simp at hl1; rw [hl1] at hlt; exact absurd hlt (Nat.not_lt_zero _))
      have HC := Lib.hid (fun (i : Nat) (hi : i < a.length) => (rb.cell (World.block_lt_of_cell? w _ (hc i hi))).trans (hc i hi))
      have hcb := hd k (by omega)
      rw [← rb.cell (World.block_lt_of_cell? w _ hcb)] at hcb
      clear hc hd
      obtain ⟨hx0, hx1⟩ := HA.out k
      have hck := HC.out k hlt
      go_wp2
      obtain ⟨wo, ho⟩ : ∃ wo : World, wr = wo := ⟨_, rfl⟩
      subst ho
      go_loopw [8] (fun j wi => ∃ m q : Nat, m ≤ k ∧ j = .int .i64 m ∧ (∀ i : Nat, i < m → a[i]?.getD 0 ≠ a[k]?.getD 0) ∧ wi = wr.drewN q) (fun j _ => k - (intOf j).toNat)
      case atStart => exact ⟨0, 0, Nat.zero_le _, rfl, fun i hi => by omega, rfl⟩
      case round =>
        obtain ⟨m, q, hm, rfl, hne, rfl⟩ := hrel
        have HNE := Lib.hid hne
        clear hne
        by_cases hmk : m < k
        · have hcm := HC.out m (by omega)
          have hdup := not_nodup_of a k hlt
          have hmem := mem_take_of a m k hmk (by omega)
          by_cases he : a[m]?.getD 0 = a[k]?.getD 0
          · have HD := Lib.hid (newOut_dup a b (hdup (he ▸ hmem)))
            rw [he] at hcm
            generalize a[k]?.getD 0 = x at hck hcm hx0 hx1
            clear hdup hmem he
            go_wp2
            go_quiet (fail)
            rename_i nq
            have r0 : Arr (wr.drewN (q + nq)) w.heap.size 27 zrow := r0
            have rb := below_drewN rb (q + nq)
            go_wp2_with (refine wpList_store_row rfl 27 _ _ rfl rfl w.heap.size 27 _ _ rfl rfl r0 rfl (by rw [row_size]; exact infoT) (row_one _) ?_)
            exact ret_row_tmp (l := zrow) rfl rfl r0.setRow Try.underlying27 rfl infoT rfl ⟨by rw [HD.out]; rfl, below_setRow rb (Nat.le_refl _) _⟩
          · have hst : ∀ i : Nat, i < m + 1 → a[i]?.getD 0 ≠ a[k]?.getD 0 := by
              intro i hi
              by_cases e : i = m
              · subst e; exact he
              · exact HNE.out i (by omega)
            have HST := Lib.hid hst
            have hbe : (a[m]?.getD 0 == a[k]?.getD 0) = false := beq_eq_false_iff_ne.2 he
            clear hst
            generalize a[k]?.getD 0 = x at *
            generalize a[m]?.getD 0 = y at hcm hbe
            clear hdup hmem he
            go_wp2
            go_quiet (fail)
            go_wp2
            go_roundw
            case rel => exact ⟨m + 1, _, by omega, by go_num, HST.out, rfl⟩
            case measure => simp [intOf]; omega
        · have hmk' : m = k := by omega
          have hnin := not_mem_take a (a[k]?.getD 0) k (by omega) (fun j hj => HNE.out j (by omega))
          have hts := take_snoc a k hlt
          have hnx := nodup_snoc _ _ HND.out hnin
          rw [← hts] at hnx
          have HNX := Lib.hid hnx
          have htc := r6.cell (a[k]?.getD 0).toNat (by rw [newT_len]; omega)
          have htf := r6.frozen (a[k]?.getD 0).toNat
          have hT : Hid (newT a b (k + 1) = (newT a b k).set (a[k]?.getD 0).toNat (b[k]?.getD 0)) := Lib.hid rfl
          subst hmk'
          clear hnin hts hnx hmk
          generalize a[m]?.getD 0 = x at *
          generalize b[m]?.getD 0 = y at hcb hT
          go_wp2
          go_region
          go_wp2
          go_roundw
          case rel => exact ⟨m + 1, by omega, by go_num, HNX.out, (r0.drewN _).other _ (by show w.heap.size ≠ g; omega) _, by rw [hT.out]; exact (r6.drewN _).set _ _, (below_drewN rb _).setCell (by show w.heap.size ≤ g; omega) _⟩
          case measure => simp [intOf]; omega
    · go_wp2_with (first | (refine wpList_load_row rfl 27 _ rfl g rfl 27 _ (0, 0) _ r6 Try.underlying27 rfl (by rw [row_size, newT_len]; exact infoT) ?_) | (refine wpList_store_row rfl 27 _ _ rfl rfl w.heap.size 27 _ _ rfl rfl r0 (by rw [row_size, row_size, newT_len]; rfl) (by rw [row_size, newT_len]; exact infoT) (row_one _) ?_))
      have hk' : k = a.length := by omega
      have hN : a.Nodup := by have := HND.out; rwa [List.take_of_length_le (by omega)] at this
      exact ret_row_tmp (l := newT a b k) rfl rfl r0.setRow Try.underlying27 rfl (by rw [newT_len]; exact infoT) rfl ⟨by rw [newOut_ok a b (by omega) hN, hk']; rfl, below_setRow rb (Nat.le_refl _) _⟩

theorem refNew_any (w : World) (a b : List Int) (va vb : Value) (ha : SB w va a) (hb : SB w vb b) :
    Calls Try.prog 12 #[va, vb] w fun e w' => e = .returned (newOut a b) ∧ Below w.heap.size w w' := by
  by_cases h : a.length = b.length
  · by_cases h2 : 256 < a.length
    · exact refNew_long w a b va vb ha hb h h2
    · exact refNew_like w a b va vb ha hb h (by omega)
  · exact refNew_unlike w a b va vb ha hb h
end Go.Proofs.Ytmmnebejmfmeeaa
