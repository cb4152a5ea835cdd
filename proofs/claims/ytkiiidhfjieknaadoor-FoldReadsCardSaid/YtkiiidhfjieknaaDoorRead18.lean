/-
  galleyref18: read, Back, by definition.
-/
import Derived.Test.YtkiiidhfjieknaaDoorRef18
import Derived.Test.YtkiiidhfjieknaaDoorReadM
import Derived.Test.YtkiiidhfjieknaaDoorBack
namespace Go.Proofs.YtkiiidhfjieknaaDoor
open Go.RowKit

def ReadPost (w : World) (p : List Int) (e : Ending) (w' : World) : Prop := Below w.heap.size w w' ∧ match readAt p with
  | none => e = .returned (.tuple #[.int .u8 0, .int .i64 0])
  | some b => e = .returned (.tuple #[.int .u8 (b : Int), .int .i64 ((pieceL (b : Int)).length : Nat)])
theorem read_post_none {w w' : World} {p : List Int} (h : readAt p = none) (hb : Below w.heap.size w w') : ReadPost w p (.returned (.tuple #[.int .u8 0, .int .i64 0])) w' := by
  refine ⟨hb, ?_⟩; rw [h]
theorem read_post_some {w w' : World} {p : List Int} {b pn : Nat} (h : readAt p = some b) (hl : (pieceL (b : Int)).length = pn) (hb : Below w.heap.size w w') : ReadPost w p (.returned (.tuple #[.int .u8 (b : Int), .int .i64 (pn : Nat)])) w' := by
  refine ⟨hb, ?_⟩; rw [h, ← hl]
theorem take_next (p q : List Int) (i : Nat) (h1 : i < p.length) (h2 : i < q.length) : decide (q.take (i + 1) = p.take (i + 1)) = (decide (q.take i = p.take i) && (q[i]?.getD 0 == p[i]?.getD 0)) := by
  rw [take_snoc q i h2, take_snoc p i h1]
  by_cases h : q.take i = p.take i
  · rw [h]
    by_cases e : q[i]?.getD 0 = p[i]?.getD 0 <;> simp [e]
  · have : ¬ (q.take i ++ [q[i]?.getD 0] = p.take i ++ [p[i]?.getD 0]) := fun e => by
      have := congrArg (List.take i) e
      rw [List.take_append_of_le_length (by rw [List.length_take]; omega), List.take_append_of_le_length (by rw [List.length_take]; omega), List.take_take, List.take_take, Nat.min_self] at this
      exact h this
    simp [h, this]

set_option maxRecDepth 100000 in
set_option maxHeartbeats 2000000 in
theorem refRead_any (w : World) (a : Option Addr) (n c : Nat) (l : List Int) (h : SBC w a n c l) (at_ : Nat) (hat : at_ ≤ n) (hn : n ≤ 4294967296) :
    Calls Tryd.prog 41 #[.slice a n c, .int .i64 (at_ : Int)] w (ReadPost w (l.drop at_)) := by
  have HS := Lib.hid h
  have HLN := Lib.hid h.len
  clear h
  go_enter Tryd.func41, Tryd.ntmps41
  go_wp2
  go_loopw [6] (fun v6 wr => ∃ k : Nat, k ≤ 256 ∧ v6 = .int .i64 k ∧ (∀ j : Nat, j < k → (pieceL (j : Int)).isPrefixOf (l.drop at_) = false) ∧ Below w.heap.size w wr) (fun v6 _ => 256 - (intOf v6).toNat)
  case atStart => exact ⟨0, Nat.zero_le _, rfl, fun j hj => absurd hj (Nat.not_lt_zero _), Below.refl _ _⟩
  case round =>
    obtain ⟨k, hk, rfl, hno, rb⟩ := hrel
    have HNO := Lib.hid hno
    clear hno
    by_cases hlt : k < 256
    · have hw : IntKind.u8.wrap (k : Int) = (k : Int) := by rw [IntKind.wrap_u8]; omega
      have hpl := piece_len (k : Int)
      have hpp := piece_pos (k : Int)
      have HPC := Lib.hid (refPiece_any wr (k : Int) (by omega) (by omega))
      have HPB := Lib.hid (piece_isB (k : Int) (by omega) (by omega))
      have hd1 : decide ((k : Int) < 256) = true := by simp; omega
      have hbs := rb.size
      have hsc := HS.out.below rb
      have HSC := Lib.hid hsc
      have hlen : (l.drop at_).length = n - at_ := by rw [List.length_drop, HLN.out]
      have hsh : (l.drop at_).length < (pieceL (k : Int)).length → (pieceL (k : Int)).isPrefixOf (l.drop at_) = false := pre_short
      have htk : (pieceL (k : Int)).length ≤ (l.drop at_).length → (pieceL (k : Int)).isPrefixOf (l.drop at_) = decide ((l.drop at_).take (pieceL (k : Int)).length = pieceL (k : Int)) := pre_take _ _
      have HSH := Lib.hid hsh
      have HTK := Lib.hid htk
      have HLE := Lib.hid hlen
      clear hsc hlen hsh htk
      go_wp2_with fail
      refine HPC.out.mono ?_
      rintro e w1 ⟨pv, rfl, hop, hb1⟩
      obtain ⟨ad, cp, rfl, hle, hnc, hsp⟩ := hop.sbn HPB.out (by omega)
      have hsc1 := Lib.hid (HSC.out.below hb1)
      have rb := rb.trans (hb1.mono hbs)
      have HRB := Lib.hid rb
      have HSP := Lib.hid hsp
      have HPK : Hid (∀ t : Bool, (pieceL (k : Int)).isPrefixOf (l.drop at_) = t → ∀ j : Nat, j < k + 1 → j < k ∨ (pieceL (j : Int)).isPrefixOf (l.drop at_) = t) := Lib.hid (fun t ht j hj => by
        by_cases e : j < k
        · exact .inl e
        · obtain rfl : j = k := by omega
          exact .inr ht)
      have HRS : Hid ((pieceL (k : Int)).isPrefixOf (l.drop at_) = true → readAt (l.drop at_) = some k) := Lib.hid (fun ht => read_some hlt ht HNO.out)
      obtain ⟨p, hp⟩ : ∃ p, pieceL (k : Int) = p := ⟨_, rfl⟩
      have HP := Lib.hid hp
      rw [hp] at hpl hpp HSH HTK HSP HPK HRS hle ⊢
      obtain ⟨pn, hpn⟩ : ∃ q, p.length = q := ⟨_, rfl⟩
      have HPN := Lib.hid hpn
      rw [hpn] at hpl hpp HSH HTK HSP hle ⊢
      clear hp hpn hop hsp hb1 rb HPC hw hbs
      by_cases hlong : n < at_ + pn
      · have hd2 : decide ((n : Int) < (at_ : Int) + (pn : Int)) = true := by simp; omega
        have HF := Lib.hid (HSH.out (by rw [HLE.out]; omega))
        clear hlong
        go_wp2_with fail
        go_roundw
        case rel => exact ⟨k + 1, by omega, by go_num, fun j hj => (HPK.out _ HF.out j hj).elim (HNO.out j) id, HRB.out⟩
        case measure => simp [intOf]; omega
      · have hd2 : decide ((n : Int) < (at_ : Int) + (pn : Int)) = false := by simp; omega
        have HT := Lib.hid (HTK.out (by rw [HLE.out]; omega))
        obtain ⟨bl, ol, ha, hcl⟩ := hsc1.out.cells (by omega)
        subst ha
        have HCL := Lib.hid hcl
        obtain ⟨bp, op, hap, hcp⟩ := HSP.out.read 0 (by omega)
        subst hap
        have HCP := Lib.hid hcp
        have hle2 : at_ + pn ≤ n := by omega
        clear hcl hcp hlong
        rename World => wr0
        go_wp2_with fail
        go_loopw [8, 9] (fun v8 v9 wr => ∃ i q : Nat, i ≤ pn ∧ v9 = .int .i64 i ∧ v8 = .bool (decide ((l.drop at_).take i = p.take i)) ∧ wr = wr0.drewN q) (fun _ v9 _ => pn - (intOf v9).toNat)
        case atStart => exact ⟨0, 0, Nat.zero_le _, rfl, by simp, rfl⟩
        case round =>
          obtain ⟨i, q, hi, rfl, rfl, rfl⟩ := hrel
          by_cases hil : i < pn
          · have hd3 : decide ((i : Int) < (pn : Int)) = true := by simp; omega
            have hx1 : (wr0.drewN q).cell? ⟨bl, ol + (at_ + i), none⟩ = some (.int .u8 (l[at_ + i]?.getD 0)) := HCL.out (at_ + i) (by omega)
            have hx2 : (wr0.drewN q).cell? ⟨bp, op + i, none⟩ = some (.int .u8 (p[i]?.getD 0)) := HCP.out i hil
            have hx3 := Lib.hid (take_next p (l.drop at_) i (by rw [HPN.out]; exact hil) (by rw [HLE.out]; omega))
            rw [List.getElem?_drop] at hx3
            have HW := fun m => Lib.hid (World.drewN_drewN wr0 q m)
            generalize wr0.drewN q = wq at hx1 hx2 HW ⊢
            generalize l[at_ + i]?.getD 0 = x at hx1 hx3
            generalize p[i]?.getD 0 = y at hx2 hx3
            have a1 : ((at_ : Int) + (i : Int)).toNat = at_ + i := by omega
            have a2 : IntKind.i64.wrap ((at_ : Int) + (i : Int)) = (at_ : Int) + (i : Int) := IntWalk.i64_in _ (by omega)
            have a3 : (0 : Int) ≤ (at_ : Int) + (i : Int) := by omega
            have a4 : (at_ : Int) + (i : Int) < (n : Int) := by omega
            cases ht : decide ((l.drop at_).take i = p.take i) with
            | true =>
              rw [ht] at hx3
              by_cases hxy : x = y
              · have hb : (x == y) = true := by simpa using hxy
                have H3 : Hid (decide ((l.drop at_).take (i + 1) = p.take (i + 1)) = true) := Lib.hid (by rw [hx3.out, hb]; rfl)
                clear hxy ht
                go_wp2_with fail
                go_quiet (fail)
                go_wp2_with fail
                go_roundw
                case rel => exact ⟨i + 1, _, by omega, by go_num, by rw [H3.out], (HW _).out⟩
                case measure => simp [intOf]; omega
              · have hb : (x == y) = false := by simpa using hxy
                have H3 : Hid (decide ((l.drop at_).take (i + 1) = p.take (i + 1)) = false) := Lib.hid (by rw [hx3.out, hb]; rfl)
                clear hxy ht
                go_wp2_with fail
                go_quiet (fail)
                go_wp2_with fail
                go_roundw
                case rel => exact ⟨i + 1, _, by omega, by go_num, by rw [H3.out], (HW _).out⟩
                case measure => simp [intOf]; omega
            | false =>
              rw [ht] at hx3
              have H3 : Hid (decide ((l.drop at_).take (i + 1) = p.take (i + 1)) = false) := Lib.hid (by rw [hx3.out]; rfl)
              clear ht
              go_wp2_with fail
              go_quiet (fail)
              go_wp2_with fail
              go_roundw
              case rel => exact ⟨i + 1, _, by omega, by go_num, by rw [H3.out], (HW _).out⟩
              case measure => simp [intOf]; omega
          · obtain rfl : pn = i := by omega
            have hpt : p.take pn = p := List.take_of_length_le (by rw [HPN.out]; exact Nat.le_refl _)
            rw [hpt, ← HT.out]
            have HB := Lib.hid (below_drewN HRB.out q)
            clear hpt
            generalize wr0.drewN q = wq at HB ⊢
            cases ht : p.isPrefixOf (l.drop at_) with
            | true =>
              have HR := Lib.hid (HRS.out ht)
              have hw : IntKind.u8.wrap (k : Int) = (k : Int) := by rw [IntKind.wrap_u8]; omega
              clear ht
              go_wp2_with fail
              go_ret2
              exact read_post_some HR.out (by rw [HP.out, HPN.out]) HB.out
            | false =>
              have HR := Lib.hid (HPK.out false ht)
              clear ht
              go_wp2_with fail
              go_roundw
              case rel => exact ⟨k + 1, by omega, by go_num, fun j hj => (HR.out j hj).elim (HNO.out j) id, HB.out⟩
              case measure => simp [intOf]; omega
    · obtain rfl : k = 256 := by omega
      have HR := Lib.hid (read_none HNO.out)
      go_wp2_with fail
      go_ret2
      exact read_post_none HR.out rb

theorem drop_two (l : List Int) (m k : Nat) (h : k + 1 < m) (hm : m ≤ l.length) : (l.take m).drop k = (l[k]?.getD 0) :: (l[k + 1]?.getD 0) :: (l.take m).drop (k + 2) := by
  have hl : (l.take m).length = m := by rw [List.length_take]; omega
  rw [List.drop_eq_getElem_cons (by omega), List.drop_eq_getElem_cons (by omega)]
  simp [List.getElem?_eq_getElem (show k < l.length by omega), List.getElem?_eq_getElem (show k + 1 < l.length by omega)]
theorem ends_is2 (l : List Int) (m : Nat) (hl : l.length = m + 2) : endsL l = decide (l[m]?.getD 0 = 36 ∧ l[m + 1]?.getD 0 = 10) := by
  unfold endsL
  rw [hl, show m + 2 - 2 = m by omega, List.drop_eq_getElem_cons (by omega), List.drop_eq_getElem_cons (by omega), List.drop_of_length_le (by omega)]
  rw [List.getElem?_eq_getElem (by omega), List.getElem?_eq_getElem (by omega)]
  simp
/-- What the reader's loop keeps. -/
def Reads (l : List Int) (m k : Nat) (o : List Int) : Prop := ∀ x, backL l = some x → StandsAt x o ((l.take m).drop k) (decide (k = 0))
theorem reads_start (l : List Int) (m : Nat) (hl : l.length = m + 2) (hB : InB l) : Reads l m 0 [] := fun x hx => by
  obtain ⟨h1, h2⟩ := back_in hB hx
  have h3 := stands_start (leastL l) (least_le l).1 x h1
  have e : l.take m = render (rowsR (leastL l) x) := by
    have hh : (rowL (leastL l) x).length = m + 2 := by rw [h2, hl]
    unfold rowL at hh h2
    rw [List.length_append] at hh
    have hm : (render (rowsR (leastL l) x)).length = m := by simpa using hh
    have := congrArg (List.take m) h2
    rw [List.take_left' hm] at this
    exact this.symm
  rw [List.drop_zero, e]
  exact h3
theorem reads_skip {l : List Int} {m k : Nat} {o : List Int} (h : Reads l m k o) (hk : k + 1 < m) (hm : m ≤ l.length) (h1 : l[k]?.getD 0 = 92) (h2 : l[k + 1]?.getD 0 = 10) : Reads l m (k + 2) o := fun x hx => by
  have := h x hx
  rw [drop_two l m k hk hm, h1, h2] at this
  exact stands_skip this
theorem reads_read {l : List Int} {m k : Nat} {o : List Int} (h : Reads l m k o) (hk : k < m) (hm : m ≤ l.length) (hn : k = 0 ∨ ∀ u, (l.take m).drop k ≠ 92 :: 10 :: u) :
    (readAt ((l.take m).drop k) = none → backL l = none) ∧ ∀ b, readAt ((l.take m).drop k) = some b → Reads l m (k + (pieceL (b : Int)).length) (o ++ [(b : Int)]) := by
  have hp : (l.take m).drop k ≠ [] := fun e => by
    have := congrArg List.length e
    rw [List.length_drop, List.length_take] at this
    simp at this
    omega
  have hs : ∀ x, backL l = some x → ∃ b : Nat, readAt ((l.take m).drop k) = some b ∧ StandsAt x (o ++ [(b : Int)]) (((l.take m).drop k).drop (pieceL (b : Int)).length) false := fun x hx =>
    stands_read (h x hx) hp (hn.imp (fun e => by simp [e]) id)
  refine ⟨fun hr => ?_, fun b hb x hx => ?_⟩
  · cases hb : backL l with
    | none => rfl
    | some x =>
      obtain ⟨b, h1, -⟩ := hs x hb
      rw [hr] at h1
      cases h1
  · obtain ⟨b', h1, h2⟩ := hs x hx
    rw [hb] at h1
    obtain rfl := Option.some.inj h1
    rw [List.drop_drop] at h2
    have := piece_pos (b : Int)
    rw [decide_eq_false (by omega)]
    exact h2
theorem reads_end {l : List Int} {m : Nat} {o : List Int} (h : Reads l m m o) (hB : InB l) : ∀ x, backL l = some x → x = o ∧ rowL (leastL l) o = l := fun x hx => by
  have h1 := h x hx
  rw [List.drop_of_length_le (by rw [List.length_take]; omega)] at h1
  have := stands_end h1
  subst this
  exact ⟨rfl, (back_in hB hx).2⟩
theorem reads_no {l : List Int} {m : Nat} {o : List Int} (h : Reads l m m o) (hB : InB l) (hne : rowL (leastL l) o ≠ l) : backL l = none := by
  cases hb : backL l with
  | none => rfl
  | some x => exact absurd (reads_end h hB x hb).2 hne
theorem wideN_nat (W : Nat) (h : 4 ≤ W) : wideN ((W : Nat) : Int) = W := by unfold wideN; split <;> omega

set_option maxRecDepth 100000 in
set_option maxHeartbeats 4000000 in
theorem refBack_any (w : World) (a : Option Addr) (n c : Nat) (l : List Int) (h : SBC w a n c l) (hn31 : n ≤ 2147483648) : Calls Tryd.prog 17 #[.slice a n c] w (BackPost w l) := by
  have HS := Lib.hid h
  have HLN := Lib.hid h.len
  have HIN := Lib.hid h.inB
  by_cases h2 : n < 2
  · have hd : decide ((n : Int) < 2) = true := by simp; omega
    have HN := Lib.hid (back_no l (by unfold endsL; rw [HLN.out]; exact decide_eq_false (by omega)))
    clear h h2
    go_enter Tryd.func17, Tryd.ntmps17
    go_wp2_with fail
    go_ret2
    exact back_none HN.out (Below.refl _ _)
  · obtain ⟨m, rfl⟩ : ∃ m, n = m + 2 := ⟨n - 2, by omega⟩
    have hd0 : decide ((((m + 2 : Nat) : Nat) : Int) < 2) = false := by simp; omega
    obtain ⟨bl, ol, ha, hcl⟩ := h.cells (by omega)
    subst ha
    have HCL := Lib.hid hcl
    have hmc : m ≤ c := by have := h.2.1; omega
    have hc1 := hcl (m + 1) (by omega)
    have hc2 := hcl m (by omega)
    have HE := Lib.hid (ends_is2 l m HLN.out)
    have e1 : (((m + 2 : Nat) : Int) - 1).toNat = m + 1 := by omega
    have e2 : (((m + 2 : Nat) : Int) - 2).toNat = m := by omega
    clear h hcl h2
    by_cases hx : l[m + 1]?.getD 0 = 10
    · by_cases hy : l[m]?.getD 0 = 36
      · rw [hx] at hc1
        rw [hy] at hc2
        have HX := Lib.hid hx
        have HY := Lib.hid hy
        have HST := Lib.hid (reads_start l m HLN.out HIN.out)
        clear hx hy
        go_enter Tryd.func17, Tryd.ntmps17
        go_wp2_with fail
        go_loopw [5, 6] (fun v5 v6 wr => ∃ (k : Nat) (o : List Int), k ≤ m ∧ v6 = .int .i64 k ∧ OwnB wr w.heap.size v5 o ∧ InB o ∧ o.length ≤ k ∧ Below w.heap.size w wr ∧ Reads l m k o) (fun _ v6 _ => m - (intOf v6).toNat)
        case atStart => exact ⟨0, [], Nat.zero_le _, rfl, OwnB.nil _ _, fun c hc => (by cases hc), Nat.le_refl _, Below.refl _ _, HST.out⟩
        case round =>
          obtain ⟨k, o, hk, rfl, ho, hoB, hol, rb, hR⟩ := hrel
          have hbs := rb.size
          have HR := Lib.hid hR
          have HOB := Lib.hid hoB
          clear hc1 hc2 hR hoB
          by_cases hlt : k < m
          · have hd1 : decide ((k : Int) < ((m + 2 : Nat) : Int) - 2) = true := by simp; omega
            have hx1 := HCL.out k (by omega)
            have hx2 := HCL.out (k + 1) (by omega)
            rw [← rb.cell (p := ⟨bl, ol + k, none⟩) (World.block_lt_of_cell? w _ hx1)] at hx1
            rw [← rb.cell (p := ⟨bl, ol + (k + 1), none⟩) (World.block_lt_of_cell? w _ hx2)] at hx2
            have HRD := Lib.hid (refRead_any wr (some ⟨bl, ol, none⟩) m c (l.take m) (sbc_take (HS.out.below rb) m (by omega)) k hk (by omega))
            have hmain : (k = 0 ∨ ∀ u, (l.take m).drop k ≠ 92 :: 10 :: u) → _ := reads_read HR.out hlt (by rw [HLN.out]; omega)
            have HM := Lib.hid hmain
            clear hmain
            have hsk : l[k]?.getD 0 = 92 → l[k + 1]?.getD 0 = 10 → k + 2 ≤ m ∧ Reads l m (k + 2) o := fun q1 q2 => by
              have hk1 : k + 1 < m := by
                by_cases e : k + 1 = m
                · rw [e, HY.out] at q2; cases q2
                · omega
              exact ⟨by omega, reads_skip HR.out hk1 (by rw [HLN.out]; omega) q1 q2⟩
            have hnb : (l[k]?.getD 0 ≠ 92 ∨ l[k + 1]?.getD 0 ≠ 10) → ∀ u, (l.take m).drop k ≠ 92 :: 10 :: u := fun q u e => by
              have hl : (l.take m).length = m := by rw [List.length_take, HLN.out]; omega
              have hk1 : k + 1 < m := by
                have := congrArg List.length e
                rw [List.length_drop, hl] at this
                simp at this
                omega
              rw [drop_two l m k hk1 (by rw [HLN.out]; omega)] at e
              simp only [List.cons.injEq] at e
              rcases q with q | q
              · exact q e.1
              · exact q e.2.1
            have HSK := Lib.hid hsk
            have HNB := Lib.hid hnb
            clear hsk hnb
            have hcase : (k ≠ 0 ∧ l[k]?.getD 0 = 92 ∧ l[k + 1]?.getD 0 = 10) ∨ ((k = 0 ∨ l[k]?.getD 0 ≠ 92 ∨ l[k + 1]?.getD 0 ≠ 10)) := by
              by_cases q0 : k = 0
              · exact .inr (.inl q0)
              · by_cases q1 : l[k]?.getD 0 = 92
                · by_cases q2 : l[k + 1]?.getD 0 = 10
                  · exact .inl ⟨q0, q1, q2⟩
                  · exact .inr (.inr (.inr q2))
                · exact .inr (.inr (.inl q1))
            rcases hcase with ⟨q0, q1, q2⟩ | hq
            · obtain ⟨hk2, hR2⟩ := HSK.out q1 q2
              rw [q1] at hx1
              rw [q2] at hx2
              have hd3 : decide ((0 : Int) < (k : Int)) = true := by simp; omega
              have hd3' : 0 < k := by omega
              have HR2 := Lib.hid hR2
              clear q0 q1 q2 hR2
              go_wp2_with fail
              go_roundw
              case rel => exact ⟨k + 2, o, hk2, by go_num, ho, HOB.out, by omega, rb, HR2.out⟩
              case measure => simp [intOf]; omega
            · have hM := HM.out (hq.imp id HNB.out)
              have HM1 := Lib.hid hM.1
              have HM2 := Lib.hid hM.2
              clear hM
              go_upto_region 7 with fail
              go_cut [51] from 31 to 71 (fun v51 wx => v51 = .bool false ∧ wx = wr)
              case first =>
                generalize l[k]?.getD 0 = x at hx1 hq
                generalize l[k + 1]?.getD 0 = y at hx2 hq
                clear HSK HNB HM1 HM2 HRD HM
                by_cases q0 : k = 0
                · have hd3 : decide ((0 : Int) < (k : Int)) = false := by simp; omega
                  have hd3' : ¬ 0 < k := by omega
                  clear hq q0
                  go_wp2_with fail
                  go_meet
                  case rel => exact ⟨rfl, rfl⟩
                · have hd3 : decide ((0 : Int) < (k : Int)) = true := by simp; omega
                  have hd3' : 0 < k := by omega
                  by_cases q1 : x = 92
                  · have hy2 : (y == 10) = false := by
                      rcases hq with hq | hq | hq
                      · exact absurd hq q0
                      · exact absurd q1 hq
                      · simpa using hq
                    have hx2' : (x == 92) = true := by simpa using q1
                    clear q0 q1 hq
                    go_wp2_with fail
                    go_meet
                    case rel => exact ⟨rfl, rfl⟩
                  · have hx2' : (x == 92) = false := by simpa using q1
                    clear q0 q1 hq
                    go_wp2_with fail
                    go_meet
                    case rel => exact ⟨rfl, rfl⟩
              case rest =>
                obtain ⟨rfl, rfl⟩ := hcut
                clear hq HSK HNB hx1 hx2
                rename World => w0
                go_wp2_with fail
                refine HRD.out.mono ?_
                rintro e w1 ⟨hb1, hq⟩
                have ho := ho.below hb1
                have rb := rb.trans (hb1.mono hbs)
                have hbs := rb.size
                clear HRD hb1
                cases hr : readAt ((l.take m).drop k) with
                | none =>
                  rw [hr] at hq
                  subst hq
                  have HN := Lib.hid (HM1.out hr)
                  clear hr HM1 HM2 HM
                  go_wp2_with fail
                  go_ret2
                  exact back_none HN.out rb
                | some b =>
                  rw [hr] at hq
                  subst hq
                  obtain ⟨hb256, t, ht⟩ := read_is hr
                  have hpp := piece_pos (b : Int)
                  have hkp : k + (pieceL (b : Int)).length ≤ m := by
                    have := congrArg List.length ht
                    rw [List.length_drop, List.length_take, HLN.out, List.length_append] at this
                    omega
                  have HR2 := Lib.hid (HM2.out b hr)
                  clear hr ht HM1 HM2 HM
                  generalize (pieceL (b : Int)).length = pn at hpp hkp HR2 ⊢
                  have hp0 : ((pn : Int) == 0) = false := by simp; omega
                  go_wp2_with (at_builtin; refine append_b1 rfl (.tmp 65) (.tmp 67) rfl w.heap.size _ o (b : Int) rfl ho rfl (by omega) hbs ?_)
                  intro v' w2 ho2 hA2
                  have hb3 := hA2.bel _ _ rb (Nat.le_refl _)
                  clear ho hA2 rb
                  go_wp2_with fail
                  go_roundw
                  case rel => exact ⟨k + pn, o ++ [(b : Int)], hkp, by go_num, ho2, fun c hc => (List.mem_append.1 hc).elim (HOB.out c) (fun e => by rw [List.mem_singleton.1 e]; omega), by rw [List.length_append, List.length_singleton]; omega, hb3, HR2.out⟩
                  case measure => simp [intOf]; omega
          · obtain rfl : m = k := by omega
            have hll := least_le l
            rw [HLN.out] at hll
            have HLE := Lib.hid (least_any wr (some ⟨bl, ol, none⟩) (m + 2) c l (HS.out.below rb) (by omega))
            have HNO := Lib.hid (fun hne => reads_no HR.out HIN.out hne)
            have hrl := rowL_len (leastL l) o
            have HRB := Lib.hid (rowL_isB (leastL l) o HOB.out)
            have HBR := Lib.hid (back_row (leastL l) hll.1 o HOB.out)
            have HWN := Lib.hid (wideN_nat (leastL l) hll.1)
            have hlt2 : ¬ (m : Int) < ((m + 2 : Nat) : Int) - 2 := by omega
            go_wp2_with fail
            refine HLE.out.mono ?_
            rintro e w1 ⟨rfl, q, rfl⟩
            have ho := ho.below (below_drewN (Below.refl _ _) q)
            have rb := below_drewN rb q
            have hbs : w.heap.size ≤ (wr.drewN q).heap.size := rb.size
            generalize wr.drewN q = w1 at ho rb hbs ⊢
            obtain ⟨ao, co, rfl, -, -, hso⟩ := ho.sbn (inB_isB HOB.out) (by omega)
            have HRR := refRow_any w1 _ o hso (by omega) ((leastL l : Nat) : Int) (by omega) (by omega)
            rw [HWN.out] at HRR
            obtain ⟨R, hR⟩ : ∃ R, rowL (leastL l) o = R := ⟨_, rfl⟩
            rw [hR] at HRR hrl HRB HBR HNO
            have HRR := Lib.hid HRR
            clear HLE hR hso
            generalize leastL l = W at hll HRR ⊢
            go_wp2_with fail
            refine HRR.out.mono ?_
            rintro e w2 ⟨v9, rfl, ho9, hb2⟩
            have ho := ho.below hb2
            have rb := rb.trans (hb2.mono hbs)
            obtain ⟨a9, c9, rfl, -, -, hs9⟩ := ho9.sbn HRB.out (by omega)
            obtain ⟨rn, hrn⟩ : ∃ k, R.length = k := ⟨_, rfl⟩
            have HRN := Lib.hid hrn
            rw [hrn] at hs9 hrl ⊢
            have HS9 := Lib.hid hs9
            have HO := Lib.hid ho
            have HRBW := Lib.hid rb
            clear HRR ho9 hb2 hrn hs9 ho rb
            by_cases hrm : rn = m + 2
            · have hne : ((rn : Int) != ((m + 2 : Nat) : Int)) = false := by rw [hrm]; simp
              have hrm1 : rn ≤ m + 2 := by omega
              have hrm2 : m + 2 ≤ rn := by omega
              have HRM := Lib.hid hrm
              obtain ⟨b9, o9, ha9, hc9⟩ := HS9.out.read 0 (by omega)
              subst ha9
              have HC9 := Lib.hid hc9
              clear hrm hc9
              go_wp2_with fail
              go_loopw [10] (fun v10 wr => ∃ i q : Nat, i ≤ m + 2 ∧ v10 = .int .i64 i ∧ R.take i = l.take i ∧ wr = w2.drewN q) (fun v10 _ => m + 2 - (intOf v10).toNat)
              case atStart => exact ⟨0, 0, Nat.zero_le _, rfl, rfl, rfl⟩
              case round =>
                obtain ⟨i, q2, hi, rfl, ht, rfl⟩ := hrel
                have HT := Lib.hid ht
                clear ht
                by_cases hil : i < m + 2
                · have hd4 : decide ((i : Int) < ((m + 2 : Nat) : Int)) = true := by simp; omega
                  have hx1 : (w2.drewN q2).cell? ⟨b9, o9 + i, none⟩ = some (.int .u8 (R[i]?.getD 0)) := HC9.out i (by omega)
                  have hx2' := HCL.out i hil
                  rw [← HRBW.out.cell (p := ⟨bl, ol + i, none⟩) (World.block_lt_of_cell? w _ hx2')] at hx2'
                  have hx2 : (w2.drewN q2).cell? ⟨bl, ol + i, none⟩ = some (.int .u8 (l[i]?.getD 0)) := hx2'
                  have h3 : R[i]?.getD 0 = l[i]?.getD 0 → R.take (i + 1) = l.take (i + 1) := fun e => by
                    rw [take_snoc R i (by rw [HRN.out]; omega), take_snoc l i (by rw [HLN.out]; exact hil), HT.out, e]
                  have h4 : R[i]?.getD 0 ≠ l[i]?.getD 0 → backL l = none := fun e => HNO.out (fun h => e (by rw [h]))
                  have HW := fun m => Lib.hid (World.drewN_drewN w2 q2 m)
                  have HBD := Lib.hid (fun n => below_drewN (below_drewN HRBW.out q2) n)
                  clear hx2'
                  generalize w2.drewN q2 = wq at hx1 hx2 HW HBD ⊢
                  generalize R[i]?.getD 0 = x at hx1 h3 h4
                  generalize l[i]?.getD 0 = y at hx2 h3 h4
                  by_cases hxy : x = y
                  · have hb : (x != y) = false := by simpa using hxy
                    have H3 := Lib.hid (h3 hxy)
                    clear h3 h4 hxy
                    go_wp2_with fail
                    go_quiet (fail)
                    go_wp2_with fail
                    go_roundw
                    case rel => exact ⟨i + 1, _, by omega, by go_num, H3.out, (HW _).out⟩
                    case measure => simp [intOf]; omega
                  · have hb : (x != y) = true := by simpa using hxy
                    have H4 := Lib.hid (h4 hxy)
                    clear h3 h4 hxy
                    go_wp2_with fail
                    go_quiet (fail)
                    go_wp2_with fail
                    go_ret2
                    exact back_none H4.out (HBD.out _)
                · obtain rfl : i = m + 2 := by omega
                  have hRl : R = l := by
                    have := HT.out
                    rwa [List.take_of_length_le (by rw [HRN.out]; omega), List.take_of_length_le (by rw [HLN.out]; omega)] at this
                  have HBL := Lib.hid (show backL l = some o by rw [← hRl]; exact HBR.out)
                  have HOF := Lib.hid (HO.out.below (below_drewN (Below.refl _ _) q2))
                  have HBF := Lib.hid (below_drewN HRBW.out q2)
                  have hd4 : decide (((m + 2 : Nat) : Int) < ((m + 2 : Nat) : Int)) = false := by simp
                  clear hRl
                  generalize w2.drewN q2 = wq at HOF HBF ⊢
                  go_wp2_with fail
                  go_ret2
                  exact back_some HBL.out HBF.out HOF.out HOB.out (by rw [HLN.out]; omega)
            · have hne : ((rn : Int) != ((m + 2 : Nat) : Int)) = true := by simp; omega
              have HN := Lib.hid (HNO.out (fun e => hrm (by rw [← HRN.out, e, HLN.out])))
              clear hrm
              go_wp2_with fail
              go_ret2
              exact back_none HN.out HRBW.out
      · have HN := Lib.hid (back_no l (by rw [HE.out]; exact decide_eq_false (fun h => hy h.1)))
        have hx' : (l[m + 1]?.getD 0 != 10) = false := by simpa using hx
        have hy' : (l[m]?.getD 0 != 36) = true := by simpa using hy
        clear hx hy
        generalize l[m + 1]?.getD 0 = x at hc1 hx'
        generalize l[m]?.getD 0 = y at hc2 hy'
        go_enter Tryd.func17, Tryd.ntmps17
        go_wp2_with fail
        go_ret2
        exact back_none HN.out (Below.refl _ _)
    · have HN := Lib.hid (back_no l (by rw [HE.out]; exact decide_eq_false (fun h => hx h.2)))
      have hx' : (l[m + 1]?.getD 0 != 10) = true := by simpa using hx
      clear hx
      generalize l[m + 1]?.getD 0 = x at hc1 hx'
      go_enter Tryd.func17, Tryd.ntmps17
      go_wp2_with fail
      go_ret2
      exact back_none HN.out (Below.refl _ _)
end Go.Proofs.YtkiiidhfjieknaaDoor
