/-
  galleylaw16.back; galleylaw16.FillBack's walk.
-/
import Derived.Test.YtpkejabhkkfalaaPrintP
import Derived.Test.YtpkejabhkkfalaaEqP
import Derived.Test.YtpkejabhkkfalaaWorks16
import Derived.Test.YtpkejabhkkfalaaLong
namespace Go.Proofs.Ytpkejabhkkfalaa
open Go.RowKit

theorem asMarks_isM (l : List Int) (h : IsB l) : IsM (asMarks l) := fun i => by
  have := h i
  unfold asMarks
  rw [List.getElem?_map]
  cases hx : l[i]? with
  | none => simp
  | some x => rw [hx] at this; simpa using this
theorem asMarks_get (l : List Int) (i : Nat) : ((asMarks l)[i]?.getD (0, false)).2 = false ∧ ((asMarks l)[i]?.getD (0, false)).1 = l[i]?.getD 0 := by
  unfold asMarks
  rw [List.getElem?_map]
  cases l[i]? <;> simp
/-- What is written is a byte, and no line end. -/
theorem mem_getD (l : List Int) (P : Int → Prop) (h0 : P 0) (h : ∀ x ∈ l, P x) (i : Nat) : P (l[i]?.getD 0) := by
  by_cases hi : i < l.length
  · simpa [hi] using h l[i] (List.getElem_mem hi)
  · rw [List.getElem?_eq_none (by omega)]; exact h0
theorem wrB_fair (b : Int) (h0 : 0 ≤ b) (h1 : b ≤ 255) : ∀ x ∈ wrB b, 0 ≤ x ∧ x ≤ 255 ∧ x ≠ 10 := by
  unfold wrB
  intro x hx
  split at hx
  · simp at hx; rcases hx with rfl | rfl <;> omega
  · split at hx
    · simp at hx; omega
    · simp at hx; omega
theorem print_fair (p : List Pc) (hs : shapedL p = true) (hB : ∀ k : Nat, IsB (p[k]?.getD (0, [])).2) : ∀ x ∈ printB p, 0 ≤ x ∧ x ≤ 255 ∧ x ≠ 10 := by
  intro x hx
  unfold printB at hx
  obtain ⟨z, hz, hx⟩ := List.mem_flatMap.1 hx
  obtain ⟨k, hk, rfl⟩ := List.mem_iff_getElem.1 hz
  have h1 := shaped_at p hs k hk
  have h2 := hB k
  have e : p[k]?.getD (0, []) = p[k] := by simp [hk]
  rw [e] at h1 h2
  unfold pieceB at hx
  split at hx
  · obtain ⟨b, hb, hx⟩ := List.mem_flatMap.1 hx
    obtain ⟨j, hj, rfl⟩ := List.mem_iff_getElem.1 hb
    have h3 := h2 j
    have e3 : (p[k]).2[j]?.getD 0 = (p[k]).2[j] := by simp [hj]
    rw [e3] at h3
    exact wrB_fair _ h3.1 h3.2 x hx
  · rename_i hne
    obtain ⟨h4, h5, -⟩ := h1.resolve_left hne
    split at hx
    · simp at hx; omega
    · simp at hx
      rcases hx with rfl | rfl
      · omega
      · omega
theorem PS.isB {w : World} {v : Value} {p : List Pc} (h : PS w v p) (k : Nat) : IsB (p[k]?.getD (0, [])).2 := by
  obtain ⟨_, a, cap, _, _, _, _, h4⟩ := h
  by_cases hk : k < p.length
  · rcases h4 with rfl | ⟨b, off, _, hc⟩
    · simp at hk
    · obtain ⟨_, _, _, _, _, hs, _⟩ := hc k hk
      exact hs.1
  · rw [List.getElem?_eq_none (by omega)]; exact isB_nil

def BackPost (w : World) (r : Bool) (e : Ending) (w' : World) : Prop := e = .returned (.bool r) ∧ Below w.heap.size w w'

set_option maxHeartbeats 4000000 in
theorem back_any (w : World) (ap : Option Addr) (np cp : Nat) (p : List Pc) (sp : PS w (.slice ap np cp) p) (h : shapedL p = true) (hsum : p.length + bytesP p ≤ 268435456) :
    Calls Try.prog 10 #[.slice ap np cp] w fun e w' => e = .returned (.bool true) ∧ Below w.heap.size w w' := by
  have hpr := print_yes w ap np cp p sp h (by omega)
  have hfair := print_fair p h (fun k => sp.isB k)
  have hlen := print_len p
  have hbk := print_back p h
  have hsh := fun W (hb : Below w.heap.size w W) => (show Calls Try.prog 11 #[.slice ap np cp] W fun e w' => e = .returned (.bool true) ∧ Below W.heap.size W w' from h ▸ shaped_any W ap np cp p (sp.below hb))
  have HF := Lib.hid hfair
  have HK := Lib.hid hbk
  have HSH := Lib.hid hsh
  clear hfair hbk hsh h
  generalize hpb : printB p = pb at hpr hlen HF HK
  clear hpb
  go_enter Try.func10, Try.ntmps10
  go_wp2_with fail
  refine hpr.mono ?_
  rintro e w1 ⟨v1, rfl, o1, b1⟩
  have hB : IsB pb := fun i => mem_getD pb (fun x => 0 ≤ x ∧ x ≤ 255) (by omega) (fun x hx => ⟨(HF.out x hx).1, (HF.out x hx).2.1⟩) i
  have hN : ∀ i : Nat, pb[i]?.getD 0 ≠ 10 := fun i => mem_getD pb (fun x => x ≠ 10) (by omega) (fun x hx => (HF.out x hx).2.2) i
  have s1 := o1.sm (asMarks_isM pb hB) (by rw [asMarks_len]; omega)
  obtain ⟨-, a1, c1, rfl, -⟩ := id s1
  have hml : Hid ((asMarks pb).length = pb.length) := Lib.hid (asMarks_len pb)
  rw [asMarks_len pb] at s1 ⊢
  have HN := Lib.hid hN
  clear hpr hB hN o1
  go_wp2_with fail
  refine (HSH.out w1 b1).mono ?_
  rintro e w2 ⟨rfl, b2⟩
  have b02 := b1.trans (b2.mono b1.size)
  have s2 := s1.below b2
  have hs2 := b02.size
  clear s1 b2 b1 HSH
  go_wp2_with fail
  go_loopw [5] (fun i wr => ∃ (k q : Nat), k ≤ pb.length ∧ i = .int .i64 k ∧ wr = w2.drewN q) (fun i _ => pb.length - (intOf i).toNat)
  case atStart => exact ⟨0, 0, Nat.zero_le _, rfl, rfl⟩
  case round =>
    obtain ⟨k, q, hk, rfl, rfl⟩ := hrel
    by_cases hlt : k < pb.length
    · obtain ⟨b, o, rfl, hc⟩ := (s2.drewN q).read k hlt
      obtain ⟨d1, d2⟩ := hc k hlt
      obtain ⟨e1, e2⟩ := asMarks_get pb k
      rw [e2] at d1
      rw [e1] at d2
      have hne : (pb[k]?.getD 0 == 10) = false := beq_eq_false_iff_ne.2 (HN.out k)
      clear hc e1 e2
      generalize pb[k]?.getD 0 = x at d1 hne
      go_wp2_with fail
      go_roundw
      case rel => exact ⟨k + 1, q, by omega, by go_num, rfl⟩
      case measure => simp [intOf]; omega
    · have s3 := s2.drewN q
      have b3 := b02.trans ((below_drewN (Below.refl _ w2) q).mono hs2)
      have hs3 := b3.size
      have HPa := Lib.hid (parse_any _ a1 _ c1 _ s3 (by omega))
      clear s2 s3
      go_wp2_with fail
      refine HPa.out.mono ?_
      intro e w4 hP
      obtain ⟨b4, v4, L, rfl, o4, hL, hLl, hG⟩ := parsed hP HK.out
      rw [← hL] at hG
      obtain ⟨a4, c4, rfl, p4⟩ := o4.psg hG (by rw [hml.out]; omega) (by rw [hml.out] at hLl; omega)
      rw [hL] at p4
      have b04 := b3.trans (b4.mono hs3)
      have HE : Hid (Calls Try.prog 24 #[.slice a4 L.length c4, .slice ap np cp] w4 fun e w' => e = .returned (.bool true) ∧ Below w4.heap.size w4 w') :=
        Lib.hid ((eqPieces_any w4 a4 L.length c4 p p4 ap np cp p (sp.below b04)).mono fun e w' ⟨h1, h2⟩ => ⟨by rw [h1]; simp, h2⟩)
      have hs4 := b04.size
      clear HPa hP hG o4 hLl p4 b4 hL
      go_wp2_with fail
      refine HE.out.mono ?_
      rintro e w5 ⟨rfl, b5⟩
      have b05 := b04.trans (b5.mono hs4)
      clear HE b5
      go_wp2_with fail
      go_ret
      exact ⟨rfl, b05⟩

/-! ### How much is parsed -/
theorem flush_bytes (out : List Pc) (text : List Int) : bytesP (flushL out text) = bytesP out + text.length := by
  unfold flushL
  split
  · rename_i h; rw [h]; rfl
  · rw [bytesP_append]; unfold bytesP; simp
theorem group_bytes (out : List Pc) (g : Int) : bytesP (out ++ [(g, [])]) = bytesP out := by
  rw [bytesP_append]; unfold bytesP; simp
theorem parse_small : ∀ (n : Nat) (l : List Mk) (out : List Pc) (text : List Int) (q : List Pc), l.length ≤ n → parseR l out text = some q → bytesP q ≤ bytesP out + text.length + l.length
  | n, [], out, text, q, _, hq => by
    rw [parse_nil] at hq
    simp only [Option.some.injEq] at hq
    subst hq
    rw [flush_bytes]
    omega
  | 0, _ :: _, _, _, _, hn, _ => by simp at hn
  | n + 1, m :: r, out, text, q, hn, hq => by
    have hr : r.length ≤ n := by simpa using hn
    rw [List.length_cons]
    by_cases h1 : m = (38, false)
    · subst h1
      rw [parse_amp] at hq
      have := parse_small n r _ [] q hr hq
      rw [group_bytes, flush_bytes] at this
      simp only [List.length_nil] at this
      omega
    · by_cases h2 : m = (92, false)
      · subst h2
        cases r with
        | nil => rw [parse_end] at hq; cases hq
        | cons y r =>
          have hr' : r.length ≤ n := by simp at hr; omega
          rw [List.length_cons]
          cases hg : isGrp y
          · rw [parse_esc _ _ _ _ hg] at hq
            have := parse_small n r out _ q hr' hq
            rw [List.length_append] at this
            simp only [List.length_singleton] at this
            omega
          · rw [parse_grp _ _ _ _ hg] at hq
            have := parse_small n r _ [] q hr' hq
            rw [group_bytes, flush_bytes] at this
            simp only [List.length_nil] at this
            omega
      · rw [parse_byte _ _ _ _ h1 h2] at hq
        have := parse_small n r out _ q hr hq
        rw [List.length_append] at this
        simp only [List.length_singleton] at this
        omega

end Go.Proofs.Ytpkejabhkkfalaa
