/-
  The walk of LongestBytes.
-/
import Derived.Test.YtfmcjmkdlldlhaaLgWk
import Derived.Test.YtfmcjmkdlldlhaaLgOi
import Derived.Test.YtfmcjmkdlldlhaaLgAi
import Derived.Test.YtfmcjmkdlldlhaaLgI
import Derived.Test.YtfmcjmkdlldlhaaLong
import Derived.Test.YtfmcjmkdlldlhaaEq
namespace Go.Proofs.Ytfmcjmkdlldlhaa
open Go.RowKit
attribute [local go_sem] Oper.semAt_some

theorem bytesM_cls (b : List Int) : ∀ x ∈ bytesM b, IsC x.set := by
  intro x hx
  simp only [bytesM, List.mem_append, List.mem_map, List.mem_singleton] at hx
  rcases hx with ⟨y, _, rfl⟩ | rfl
  · exact isC_with noneL _ isC_none
  · exact isC_none
theorem sb_cell {w : World} {a : Option Addr} {n c : Nat} {l : List Int} (h : SB w (.slice a n c) l) (i : Nat) (hi : i < l.length) : ∃ b o, a = some ⟨b, o, none⟩ ∧ w.cell? ⟨b, o + i, none⟩ = some (.int .u8 (l[i]?.getD 0)) := by
  obtain ⟨_, a', c', he, _, h3⟩ := h
  simp only [Value.slice.injEq] at he
  obtain ⟨rfl, _, rfl⟩ := he
  rcases h3 with rfl | ⟨b, o, rfl, hc⟩
  · simp at hi
  · exact ⟨b, o, rfl, hc i hi⟩
theorem own_below {W W' : World} {base s n : Nat} {e : TypeId} {v : Value} {xs : List Value} (h : W.ownsRow base e s v n xs) (hb : Below W.heap.size W W') : W'.ownsRow base e s v n xs := own_blk h fun k hk => hb.block k (World.ownsRow.lt h k hk).2
set_option maxHeartbeats 4000000 in
theorem longestBytes_any (w : World) (vb vt : Value) (b tx : List Int) (hb : SB w vb b) (ht : SB w vt tx) (hcap : ∀ a n c, vt = .slice a n c → n ≤ c) (f : Int) (hf : -9223372036854775808 ≤ f ∧ f ≤ 9223372036854775807) :
    Calls Try.prog 7 #[vb, vt, .int .i64 f] w fun e w' => e = .returned (.bool true) ∧ Below w.heap.size w w' := by
  have HSB := Lib.hid hb
  have HST := Lib.hid ht
  obtain ⟨hB, ab, cb, rfl, hlb, -⟩ := hb
  obtain ⟨hT, at', ct, rfl, hlt, -⟩ := ht
  have HB := Lib.hid hB
  have HT := Lib.hid hT
  have HL := Lib.hid (And.intro hlb hlt)
  have HCT := Lib.hid (hcap _ _ _ rfl)
  have HF := Lib.hid hf
  clear hB hT hlb hlt hf hcap
  go_enter Try.func7, Try.ntmps7
  go_wp2_with fail
  refine (long_any _ _ HL.out.2).mono ?_
  rintro e w1 ⟨rfl, rfl⟩
  by_cases hL : 2147483647 < tx.length
  · rw [decide_eq_true hL]
    clear hL
    go_wp2_with fail
    go_ret
    exact ⟨rfl, Below.refl _ _⟩
  rw [decide_eq_false hL]
  by_cases hL2 : 65536 < b.length
  · have e1 : decide ((65536 : Int) < (b.length : Int)) = true := decide_eq_true (by omega)
    have e2 : decide (65536 < b.length) = true := decide_eq_true hL2
    clear hL
    go_wp2_with fail
    go_ret
    exact ⟨rfl, Below.refl _ _⟩
  have e1 : decide ((65536 : Int) < (b.length : Int)) = false := decide_eq_false (by omega)
  have e2 : decide (65536 < b.length) = false := decide_eq_false hL2
  have HL2 := Lib.hid (And.intro hL hL2)
  clear hL
  go_wp2_with fail
  refine (heavy_any _ _ _ (by omega) (by have := HL2.out; omega)).mono ?_
  rintro e w1 ⟨rfl, rfl⟩
  generalize hh : heavyB ((b.length : Int) + 1) (tx.length : Int) = hv
  clear e1 e2 hL2
  cases hv
  case true =>
    clear hh
    go_wp2_with fail
    refine (works8_any _).mono ?_
    rintro e w1 ⟨rfl, hb1⟩
    have HB1 := Lib.hid hb1
    clear hb1
    go_wp2_with fail
    go_ret
    exact ⟨rfl, HB1.out⟩
  have hq := heavyB_no (by omega) hh
  have HQ := Lib.hid (show tx.length ≤ 400 ∧ b.length ≤ 65536 from ⟨by omega, by have := HL2.out; omega⟩)
  clear hh hq HL2
  go_upto_region 6 with fail
  go_wp2_with fail
  go_loopw [7, 8] (fun m i wr => ∃ (k : Nat), k ≤ b.length ∧ i = .int .i64 k ∧ wr.ownsRow w.heap.size TI 7 m k (cellsI ((b.take k).map insB)) ∧ Below w.heap.size w wr) (fun _ i _ => b.length - (intOf i).toNat)
  case atStart => exact ⟨0, Nat.zero_le _, rfl, World.ownsRow_nil _ _ _ _, Below.refl _ _⟩
  case round =>
    obtain ⟨k, hk, rfl, ho, hbw⟩ := hrel
    have HO := Lib.hid ho
    have HBW := Lib.hid hbw
    have HK := Lib.hid hk
    clear ho hbw
    by_cases hkl : k < b.length
    · have hkI : (k : Int) < (b.length : Int) := by omega
      have hk6 : k + 1 ≤ 1000000000000 := by have := HQ.out; omega
      have hcell : ∃ bb off, ab = some ⟨bb, off, none⟩ ∧ wr.cell? ⟨bb, off + k, none⟩ = some (.int .u8 (b[k]?.getD 0)) := sb_cell (HSB.out.below HBW.out) k hkl
      obtain ⟨bb, off, rfl, hc⟩ := hcell
      have hr := HB.out k
      obtain ⟨x, hx⟩ : ∃ x : Nat, b[k]?.getD 0 = (x : Int) := ⟨(b[k]?.getD 0).toNat, by omega⟩
      rw [hx] at hc
      have HX := Lib.hid hx
      have hx256 : x < 256 := by omega
      clear hx hr
      go_wp2_with fail
      refine (one_words _ x hx256).mono ?_
      rintro e w1 ⟨p0, p1, p2, p3, hp, rfl, hb1⟩
      have HP := Lib.hid hp
      have HO1 := Lib.hid (own_below HO.out hb1)
      have HB1 := Lib.hid (HBW.out.trans (hb1.mono HBW.out.size))
      have hsz := HB1.out.size
      clear hp hb1 hc
      go_wp2_with (at_builtin; refine wpList_appI (w := w1) rfl (.tmp 35) (.tmp 42) rfl w.heap.size _ k _ ⟨1, [p0, p1, p2, p3], 0, 0⟩ _ rfl rfl rfl HO1.out rfl hk6 hsz ?_)
      intro g cap w2 ho2 hp2
      have HO2 := Lib.hid ho2
      have HB2 := Lib.hid (hp2.bel _ _ HB1.out (Nat.le_refl _))
      have hkw : IntKind.i64.wrap ((k : Int) + 1) = (k : Int) + 1 := IntWalk.i64_in _ (by omega)
      clear ho2 hp2 hsz
      go_wp2_with fail
      go_roundw
      case rel =>
        refine ⟨k + 1, hkl, by go_num, ?_, HB2.out⟩
        have h := HO2.out
        rw [← HP.out] at h
        have he : (b.take (k + 1)).map insB = (b.take k).map insB ++ [⟨1, withL noneL x, 0, 0⟩] := by
          rw [take_snoc b k hkl, List.map_append, HX.out]
          rfl
        rw [he]
        first | exact h | (rw [List.map_take]; exact h)
      case measure => simp [intOf]; omega
    · have e0 : k = b.length := by omega
      subst e0
      have hkI : ¬ (b.length : Int) < (b.length : Int) := by omega
      rw [List.take_length] at HO
      have hk6 : b.length + 1 ≤ 1000000000000 := by have := HQ.out; omega
      have hsz := HBW.out.size
      go_wp2_with (at_builtin; refine wpList_appI (w := wr) rfl (.tmp 44) (.tmp 46) rfl w.heap.size _ b.length _ doneI _ rfl rfl rfl HO.out rfl hk6 hsz ?_)
      intro g cap w2 ho2 hp2
      have hM : shapedM (bytesM b) = true := bytesM_shaped b HQ.out.2
      have hC : ∀ x ∈ bytesM b, IsC x.set := bytesM_cls b
      have HM := Lib.hid (Mach.mk hM hC)
      have HB2 := Lib.hid (hp2.bel _ _ HBW.out (Nat.le_refl _))
      have HN := Lib.hid (new_yes w2 (bytesM b) _ _ _ (MI.own hC (show World.ownsRow w2 w.heap.size TI 7 _ (bytesM b).length (cellsI (bytesM b)) by rw [bytesM_len]; exact ho2)) hM)
      clear ho2 hp2 hsz hM hC HO HBW
      go_wp2_with fail
      refine HN.out.mono ?_
      rintro e w3 ⟨s, rfl, _, hs, hb3⟩
      have HS := Lib.hid hs
      have HLE := Lib.hid HB2.out.size
      have HB3 := Lib.hid (HB2.out.trans (hb3.mono HB2.out.size))
      clear hs hb3 HN HB2
      generalize w2.heap.size = base at HS HLE
      go_wp2_with fail
      refine (copy_tx w3 _ tx (HST.out.below HB3.out)).mono ?_
      rintro e w4 ⟨ac, cc, rfl, htx, _, hb4⟩
      have HF4 := Lib.hid (find_all w4 base (bytesM b) s (HS.out.below hb4) HM.out tx ac _ cc htx f (by have := HQ.out; omega))
      have HB4 := Lib.hid (HB3.out.trans (hb4.mono HB3.out.size))
      clear htx hb4 HB3 HS
      go_wp2_with fail
      refine HF4.out.mono ?_
      rintro e w5 ⟨rfl, s5, _, _, _, hu⟩
      have HB5 := Lib.hid (hu.bel _ _ HB4.out HLE.out)
      clear hu HF4 HB4 HLE
      generalize hfi : findI (bytesM b) tx f = o
      obtain ⟨o, st⟩ := o
      dsimp only
      have HFI := Lib.hid hfi
      clear hfi
      go_upto_region 15 with fail
      have HA := Lib.hid (At.new w5 TSp [.int .i64 (spF o), .int .i64 (spT o)])
      have HB6 := Lib.hid (HB5.out.alloc HB5.out.size (.cells #[.int .i64 (spF o), .int .i64 (spT o)] TSp))
      change Hid (At (w5.alloc (.cells #[.int .i64 (spF o), .int .i64 (spT o)] TSp)) w5.heap.size TSp _) at HA
      generalize w5.alloc (.cells #[.int .i64 (spF o), .int .i64 (spT o)] TSp) = w6 at HA HB6 ⊢
      generalize w5.heap.size = x9 at HA ⊢
      clear HB5
      by_cases hf0 : f < 0
      · have e1 : decide (f < 0) = true := decide_eq_true hf0
        obtain rfl : o = none := by
          have h := congrArg Prod.fst HFI.out
          unfold findI at h
          rw [if_pos (.inl hf0)] at h
          exact h.symm
        go_wp2_with fail
        refine (works8_any _).mono ?_
        rintro e w7 ⟨rfl, hb7⟩
        have HB7 := Lib.hid (HB6.out.trans (hb7.mono HB6.out.size))
        clear hb7
        go_wp2_with fail
        go_ret
        exact ⟨rfl, HB7.out⟩
      obtain ⟨f0, rfl⟩ : ∃ k : Nat, f = (k : Int) := ⟨f.toNat, by omega⟩
      have e1 : decide ((f0 : Int) < 0) = false := decide_eq_false hf0
      go_wp2_with fail
      go_loopw [13] (fun i wr => ∃ p : Nat, f0 ≤ p ∧ i = .int .i64 p ∧ p ≤ 9223372036854775807 ∧ Below w.heap.size w wr ∧ At wr x9 TSp [.int .i64 (spF o), .int .i64 (spT o)] ∧ ∀ q, f0 ≤ q → q < p → q + b.length ≤ tx.length → (tx.drop q).take b.length ≠ b) (fun i _ => tx.length + 1 - (intOf i).toNat)
      case atStart => exact ⟨f0, Nat.le_refl _, rfl, by have := HF.out; omega, HB6.out, HA.out, fun q h1 h2 => by omega⟩
      case round =>
        obtain ⟨p, hp, rfl, hp63, hbw, hat, hno⟩ := hrel
        have HBW := Lib.hid hbw
        have HAT := Lib.hid hat
        have HNO := Lib.hid hno
        have hsw : IntKind.i64.wrap ((tx.length : Int) - (b.length : Int)) = (tx.length : Int) - (b.length : Int) := IntWalk.i64_in _ (by have := HQ.out; omega)
        have c0 : wr.cell? ⟨x9, 0, none⟩ = some (.int .i64 (spF o)) := hat.cell 0
        have c1 : wr.cell? ⟨x9, 1, none⟩ = some (.int .i64 (spT o)) := hat.cell 1
        clear hbw hat hno
        by_cases hpl : p + b.length ≤ tx.length
        · have hpI : (p : Int) ≤ (tx.length : Int) - (b.length : Int) := by omega
          have haw : IntKind.i64.wrap ((p : Int) + (b.length : Int)) = (p : Int) + (b.length : Int) := IntWalk.i64_in _ (by have := HQ.out; omega)
          obtain ⟨ad', hrun, hsb, _, _⟩ := (HST.out.below HBW.out).cut p (p + b.length) (by omega) hpl HCT.out
          rw [Int.natCast_add] at hrun
          rw [Nat.add_sub_cancel_left] at hrun hsb
          have HWIN := Lib.hid hsb
          clear hsb
          go_wp2_with fail
          refine (eqBytes_any _ _ _ _ _ HWIN.out (HSB.out.below HBW.out)).mono ?_
          rintro e w7 ⟨rfl, nq, rfl⟩
          have HB7 := Lib.hid (below_drewN HBW.out nq)
          have HA7 := Lib.hid (HAT.out.below (below_drewN (Below.refl _ wr) nq))
          clear HBW HAT
          generalize wr.drewN nq = w7 at HB7 HA7 ⊢
          by_cases hbe : (tx.drop p).take b.length = b
          · have e2 : decide ((tx.drop p).take b.length = b) = true := decide_eq_true hbe
            obtain rfl : o = some (p, p + b.length) := by
              have h := congrArg Prod.fst HFI.out
              have hno : ¬ outI tx (f0 : Int) := by rintro (h | h) <;> omega
              unfold findI at h
              rw [if_neg hno, Int.toNat_natCast] at h
              exact h.symm.trans (bytes_found b tx HB.out HT.out HQ.out.2 f0 p hp hpl hbe fun q h1 h2 => HNO.out q h1 h2 (by omega))
            have c0 : w7.cell? ⟨x9, 0, none⟩ = some (.int .i64 (p : Int)) := HA7.out.cell 0
            have c1 : w7.cell? ⟨x9, 1, none⟩ = some (.int .i64 ((p + b.length : Nat) : Int)) := HA7.out.cell 1
            rw [Int.natCast_add] at c1
            rw [e2]
            clear hbe HNO
            go_wp2_with fail
            refine (works8_any _).mono ?_
            rintro e w8 ⟨rfl, hb8⟩
            have HB8 := Lib.hid (HB7.out.trans (hb8.mono HB7.out.size))
            clear hb8
            go_wp2_with fail
            go_ret
            exact ⟨rfl, HB8.out⟩
          · have e2 : decide ((tx.drop p).take b.length = b) = false := decide_eq_false hbe
            have HBE := Lib.hid hbe
            have hpw : IntKind.i64.wrap ((p : Int) + 1) = (p : Int) + 1 := IntWalk.i64_in _ (by have := HQ.out; omega)
            rw [e2]
            clear hbe
            go_wp2_with fail
            go_roundw
            case rel =>
              refine ⟨p + 1, by omega, by go_num, by have := HQ.out; omega, HB7.out, HA7.out, fun q h1 h2 h3 => ?_⟩
              rcases Nat.lt_succ_iff_lt_or_eq.1 h2 with h | rfl
              · exact HNO.out q h1 h h3
              · exact HBE.out
            case measure => simp [intOf]; omega
        · have hpI : ¬ (p : Int) ≤ (tx.length : Int) - (b.length : Int) := by omega
          obtain rfl : o = none := by
            have h := congrArg Prod.fst HFI.out
            unfold findI at h
            by_cases hno : outI tx (f0 : Int)
            · rw [if_pos hno] at h
              exact h.symm
            · rw [if_neg hno, Int.toNat_natCast] at h
              have hle : f0 ≤ tx.length := by
                by_cases hh : f0 ≤ tx.length
                · exact hh
                · exact absurd (.inr (by omega)) hno
              exact h.symm.trans (bytes_none b tx HB.out HT.out HQ.out.2 f0 hle fun q h1 h2 => HNO.out q h1 (by omega) h2)
          have c0 : wr.cell? ⟨x9, 0, none⟩ = some (.int .i64 0) := c0
          have c1 : wr.cell? ⟨x9, 1, none⟩ = some (.int .i64 0) := c1
          clear HNO
          go_wp2_with fail
          refine (works8_any _).mono ?_
          rintro e w8 ⟨rfl, hb8⟩
          have HB8 := Lib.hid (HBW.out.trans (hb8.mono HBW.out.size))
          clear hb8
          go_wp2_with fail
          go_ret
          exact ⟨rfl, HB8.out⟩
end Go.Proofs.Ytfmcjmkdlldlhaa
