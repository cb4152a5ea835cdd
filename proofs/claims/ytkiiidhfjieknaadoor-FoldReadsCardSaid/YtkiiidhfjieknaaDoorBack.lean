/-
  fold.Back: the bytes that Row shows so at some width.
-/
import Derived.Test.YtkiiidhfjieknaaDoorShown
import Derived.Deep.DeepCutAuto
namespace Go.Proofs.YtkiiidhfjieknaaDoor
open Go.RowKit

/-- What lies in memory before any call: the table of letters, a number of the library's. -/
structure EnvW (w : World) : Prop where
  letw : LetW w
  max : ∃ m, w.cell? ⟨1, 0, none⟩ = some (.int .i64 m)
theorem EnvW.below {w w' : World} (h : EnvW w) (hb : Below w.heap.size w w') : EnvW w' := by
  obtain ⟨m, hm⟩ := h.max
  exact ⟨h.letw.below hb (Nat.le_refl _), m, by rw [hb.cell (p := ⟨1, 0, none⟩) (World.block_lt_of_cell? w _ hm)]; exact hm⟩

theorem back_no (l : List Int) (h : endsL l = false) : backL l = none := by
  unfold endsL at h
  have h := of_decide_eq_false h
  unfold backL
  split
  · rfl
  · split
    · rfl
    · rename_i h1 h2
      exact absurd ⟨by omega, by simpa using h2⟩ h
theorem back_yes (l : List Int) (h : endsL l = true) (rs : List (List Int)) (hr : rowsOf l.length (l.take (l.length - 2)) = rs) : backL l = match shownL rs.flatten.length rs.flatten with
    | none => none
    | some x => if rowL (mostR 4 rs) x = l then some x else none := by
  unfold endsL at h
  obtain ⟨h1, h2⟩ := of_decide_eq_true h
  unfold backL
  rw [if_neg (by omega), h2, if_neg (by simp)]
  simp only [hr]
  cases shownL rs.flatten.length rs.flatten <;> rfl
def lenV : Value → Nat
  | .slice _ n _ => n
  | _ => 0
def boolN : Value → Nat
  | .bool true => 1
  | _ => 0
theorem rowsOf_none (m : Nat) (s : List Int) (h : cutL s = none) : rowsOf m s = [s] := by
  cases m with
  | zero => rfl
  | succ m => rw [rowsOf, h]
theorem rowsOf_some (m : Nat) (s : List Int) (x : List Int × List Int) (h : cutL s = some x) : rowsOf (m + 1) s = x.1 :: rowsOf m x.2 := by rw [rowsOf, h]
theorem most_snoc (rs : List (List Int)) (r : List Int) : mostR 4 (rs ++ [r]) = max (mostR 4 rs) r.length := by unfold mostR; rw [List.foldl_append]; rfl
theorem wideN_most (rs : List (List Int)) : wideN ((mostR 4 rs : Nat) : Int) = mostR 4 rs := by
  have := (most_le rs 4).1
  unfold wideN
  split <;> omega
/-- The rows that have been cut off, and the rest. -/
structure CutAt (full rs : List (List Int)) (rest : List Int) : Prop where
  run : ∃ m, rest.length ≤ m ∧ full = rs ++ rowsOf m rest
theorem CutAt.last {full rs : List (List Int)} {rest : List Int} (h : CutAt full rs rest) (hc : cutL rest = none) : full = rs ++ [rest] := by
  obtain ⟨m, _, e⟩ := h.run
  rw [e, rowsOf_none m rest hc]
theorem CutAt.next {full rs : List (List Int)} {rest : List Int} (h : CutAt full rs rest) {x : List Int × List Int} (hc : cutL rest = some x) : CutAt full (rs ++ [x.1]) x.2 := by
  obtain ⟨m, hm, e⟩ := h.run
  have hx := cut_len (r := x.1) (t := x.2) hc
  have hl : rest.length = x.1.length + 2 + x.2.length := by rw [hx]; simp; omega
  obtain ⟨m, rfl⟩ : ∃ m', m = m' + 1 := ⟨m - 1, by omega⟩
  exact ⟨m, by omega, by rw [e, rowsOf_some m rest x hc]; simp⟩
theorem CutAt.len {full rs : List (List Int)} {rest : List Int} (h : CutAt full rs rest) : rs.flatten.length ≤ full.flatten.length := by
  obtain ⟨m, _, e⟩ := h.run
  rw [e, List.flatten_append, List.length_append]; omega

def BackPost (w : World) (l : List Int) (e : Ending) (w' : World) : Prop :=
  Below w.heap.size w w' ∧ match backL l with
  | none => e = .returned (.tuple #[.slice none 0 0, .bool false])
  | some x => ∃ v, e = .returned (.tuple #[v, .bool true]) ∧ OwnB w' w.heap.size v x ∧ InB x ∧ x.length ≤ l.length
theorem back_none {w w' : World} {l : List Int} (h : backL l = none) (hb : Below w.heap.size w w') : BackPost w l (.returned (.tuple #[.slice none 0 0, .bool false])) w' := by
  refine ⟨hb, ?_⟩; rw [h]
theorem back_some {w w' : World} {l x : List Int} {v : Value} (h : backL l = some x) (hb : Below w.heap.size w w') (ho : OwnB w' w.heap.size v x) (hx : InB x) (hl : x.length ≤ l.length) : BackPost w l (.returned (.tuple #[v, .bool true])) w' := by
  refine ⟨hb, ?_⟩; rw [h]; exact ⟨_, rfl, ho, hx, hl⟩
theorem sbc_take {w : World} {a : Option Addr} {n c : Nat} {l : List Int} (h : SBC w a n c l) (k : Nat) (hk : k ≤ n) : SBC w a k c (l.take k) := by
  have hl := h.len
  by_cases h0 : 0 < n
  · obtain ⟨b, o, rfl, hc⟩ := h.cells h0
    refine SBC.mk' (by rw [List.length_take]; omega) (fun y hy => h.inB y (List.mem_of_mem_take hy)) (by have := h.1.len.2; omega) (by have := h.2.1; omega) fun i hi => ?_
    rw [hc i (by omega), List.getElem?_take_of_lt hi]
  · obtain rfl : k = 0 := by omega
    rw [List.take_zero]
    exact SBC.nil _ _ h.2.2

theorem rowL_isB (W : Nat) (x : List Int) (hx : InB x) : IsB (rowL W x) := by
  refine inB_isB ?_
  have h : InB (render (rowsR W x)) := by
    induction x using list_snoc with
    | h0 => intro c hc; simp [rowsR, render] at hc
    | h1 l b ih =>
      have ih := ih fun c hc => hx c (List.mem_append.2 (.inl hc))
      have hb := hx b (by simp)
      have hp := piece_fair b hb.1 hb.2
      rw [rowsR_snoc]
      unfold stepR
      split
      · rw [render_new]
        intro c hc
        simp only [List.mem_append, List.mem_cons, List.not_mem_nil, or_false] at hc
        rcases hc with (hc | rfl | rfl) | hc
        · exact ih c hc
        · omega
        · omega
        · have := hp c hc; omega
      · rw [render_more]
        intro c hc
        rcases List.mem_append.1 hc with hc | hc
        · exact ih c hc
        · have := hp c hc; omega
  intro c hc
  unfold rowL at hc
  rcases List.mem_append.1 hc with hc | hc
  · exact h c hc
  · simp only [List.mem_cons, List.not_mem_nil, or_false] at hc; omega
theorem SBC.far {B : Nat} {w wc w4 : World} {a : Option Addr} {n c : Nat} {l : List Int} (h : SBC wc a n c l) (ha : ∀ b o, a = some ⟨b, o, none⟩ → b < B) (h1 : Below B w wc) (h2 : Below B w w4) : SBC w4 a n c l := by
  by_cases h0 : 0 < n
  · obtain ⟨b, o, rfl, hc⟩ := h.cells h0
    have hb := ha b o rfl
    refine SBC.mk' h.len h.inB h.1.len.2 h.2.1 fun i hi => ?_
    rw [h2.cell (p := ⟨b, o + i, none⟩) hb, ← h1.cell (p := ⟨b, o + i, none⟩) hb]
    exact hc i hi
  · obtain rfl : n = 0 := by omega
    obtain rfl : l = [] := List.eq_nil_of_length_eq_zero h.len
    exact SBC.nil _ _ h.2.2
theorem lit_sbcf (w : World) (l : List Int) (n : Nat) (fr : Nat × Nat) (hn : l.length = n) (hB : l.all (fun x => decide (0 ≤ x ∧ x ≤ 255)) = true) (hl : n ≤ 100) : SBC (w.alloc (.cells (row l) 5 fr)) (some ⟨w.heap.size, 0, none⟩) n n l := by
  subst hn
  exact ⟨SB.lit w 5 l _ fr l.length rfl hB (by omega), Nat.le_refl _, fun e => by cases e⟩

set_option maxHeartbeats 4000000 in
set_option maxRecDepth 100000 in
theorem back_any (w : World) (a : Option Addr) (n c : Nat) (l : List Int) (h : SBC w a n c l) (hn31 : n ≤ 2147483648) (hE : EnvW w) : Calls Tryd.prog 18 #[.slice a n c] w (BackPost w l) := by
  have HS := Lib.hid h
  have HE := Lib.hid hE
  have HIN := Lib.hid h.inB
  have HLN := Lib.hid h.len
  have hcap := h.2.1
  have hb0 := (Below.refl w.heap.size w).alloc (Nat.le_refl _) (.cells #[.int .u8 36, .int .u8 10] 5 (2, 3))
  have HCS := Lib.hid (cutSuffix_any _ a _ n c 2 l (h.below hb0) (lit_sbcf w [36, 10] 2 (2, 3) rfl (by decide) (by omega)))
  have hcv := fun (w : World) (C : Array Value) (n c g : Nat) (hg : g = w.heap.size) => Joins.run_convert_bytes_const_at (P := Tryd.prog) w 22 5 C n c g hg Tryd.underlying22 Tryd.underlying5
  clear h hE
  go_enter Tryd.func18, Tryd.ntmps18
  go_wp2_with fail
  refine HCS.out.mono ?_
  rintro e w1 ⟨he, hw⟩
  subst he hw
  have HB0 := Lib.hid hb0
  clear HCS hb0
  cases hend : endsL l
  · have HN := Lib.hid (back_no l hend)
    go_wp2_with fail
    go_ret2
    exact back_none HN.out HB0.out
  · obtain ⟨rs, hrs⟩ : ∃ rs, rowsOf l.length (l.take (l.length - 2)) = rs := ⟨_, rfl⟩
    have HY := Lib.hid (back_yes l hend rs hrs)
    have hn2 : 2 ≤ n := by
      unfold endsL at hend
      have := (of_decide_eq_true hend).1
      have := HLN.out
      omega
    have hfl := rowsOf_len l.length (l.take (l.length - 2))
    rw [hrs, List.length_take] at hfl
    have hfl : rs.flatten.length ≤ n := by have := HLN.out; omega
    have HCA : Hid (CutAt rs [] (l.take (n - 2))) := Lib.hid ⟨l.length, by rw [List.length_take]; omega, by rw [List.nil_append, ← hrs, HLN.out]⟩
    have hl2 : (l.take (n - 2)).length = n - 2 := by rw [List.length_take, HLN.out]; omega
    have HR0 : Hid (SBC (w.alloc (.cells #[.int .u8 36, .int .u8 10] 5 (2, 3))) a (n - 2) c (l.take (n - 2))) := Lib.hid (sbc_take (HS.out.below HB0.out) (n - 2) (by omega))
    have HEa := Lib.hid (HE.out.below HB0.out)
    have HL2 := Lib.hid hl2
    have HIB : Hid (InB rs.flatten) := Lib.hid (fun c hc => by
      obtain ⟨r, hr, hc⟩ := List.mem_flatten.1 hc
      exact HIN.out c (List.mem_of_mem_take (rowsOf_sub _ _ r (by rw [hrs]; exact hr) c hc)))
    have HAB : Hid (∀ b o, a = some ⟨b, o, none⟩ → b < w.heap.size) := Lib.hid (fun b o e => by
      obtain ⟨b', o', e', hc⟩ := HS.out.cells (by omega)
      have h1 := World.block_lt_of_cell? w _ (hc 0 (by omega))
      rw [e'] at e
      simp only [Option.some.injEq, Addr.mk.injEq, and_true] at e
      rw [← e.1]; exact h1)
    clear hend hl2
    generalize w.alloc (.cells #[.int .u8 36, .int .u8 10] 5 (2, 3)) = w1 at HB0 HR0 HEa ⊢
    go_wp2_with fail
    go_loopw [4, 6, 7, 8, 9] (fun v4 v6 v7 v8 _ wr => ∃ (rd : List (List Int)), Below w.heap.size w wr ∧ v7 = .int .i64 (mostR 4 rd : Nat) ∧ OwnB wr w.heap.size v6 rd.flatten ∧ rd.flatten.length ≤ n ∧ mostR 4 rd ≤ n + 4 ∧
      ((v8 = .bool true ∧ ∃ (a4 : Option Addr) (c4 : Nat) (rest : List Int) (n4 : Nat), v4 = .slice a4 n4 c4 ∧ n4 ≤ n ∧ SBC wr a4 n4 c4 rest ∧ Hid ((CutAt rs rd rest) ∧ ∀ b o, a4 = some ⟨b, o, none⟩ → b < w.heap.size)) ∨ (v8 = .bool false ∧ Hid (rd = rs) ∧ v4 = .slice none 0 0))) (fun v4 _ _ v8 _ _ => lenV v4 + boolN v8)
    case atStart => exact ⟨[], HB0.out, rfl, OwnB.nil _ _, by simp, by simp [mostR], .inl ⟨rfl, a, c, _, n - 2, rfl, by omega, HR0.out, Lib.hid ⟨HCA.out, HAB.out⟩⟩⟩
    case round =>
      clear HR0 HCA HEa
      obtain ⟨rd, rb, rfl, ho, hfr, hmr, h8⟩ := hrel
      have hbs := rb.size
      rcases h8 with ⟨rfl, a4, c4, rest, n4, rfl, hn4, hR, HCA⟩ | ⟨rfl, HRS, rfl⟩
      · have hba := (Below.refl wr.heap.size wr).alloc (Nat.le_refl _) (.cells #[.int .u8 92, .int .u8 10] 5 (2, 3))
        have HEr := Lib.hid ((HE.out.below rb).below hba)
        have HCU := Lib.hid (cut_any _ a4 _ n4 c4 2 rest (hR.below hba) (lit_sbcf wr [92, 10] 2 (2, 3) rfl (by decide) (by omega)) (by omega) HEr.out.max)
        have hln := hR.len
        have HO := Lib.hid (ho.below hba)
        have HRB := Lib.hid (rb.trans (hba.mono hbs))
        have HRz := Lib.hid (hR.below hba)
        clear hR hba ho
        go_wp2_with fail
        refine HCU.out.mono ?_
        rintro e w2 ⟨⟨q, rfl⟩, hcut⟩
        clear HCU HEr
        have hb2 := HRB.out
        have ho2 := HO.out
        have hrz := HRz.out
        clear HRB HO HRz
        generalize wr.alloc (.cells #[.int .u8 92, .int .u8 10] 5 (2, 3)) = wz at hb2 ho2 hrz hcut ⊢
        have hb3 := below_drewN hb2 q
        have ho3 : OwnB (wz.drewN q) w.heap.size u6 rd.flatten := ho2.below (below_drewN (Below.refl _ _) q)
        have hrd := hrz.drew q
        obtain ⟨r, vr, mo, rfl, hsr, hrn, hmo⟩ : ∃ (r : List Int) (vr : Value) (mo : Bool), e = .returned (.tuple #[.slice a4 r.length c4, vr, .bool mo]) ∧ SBC (wz.drewN q) a4 r.length c4 r ∧ r.length ≤ n4 ∧
            ((mo = true ∧ ∃ (a5 : Option Addr) (c5 : Nat) (t : List Int), vr = .slice a5 t.length c5 ∧ SBC (wz.drewN q) a5 t.length c5 t ∧ CutAt rs (rd ++ [r]) t ∧ t.length < n4 ∧ ∀ b o, a5 = some ⟨b, o, none⟩ → b < w.heap.size) ∨ (mo = false ∧ vr = .slice none 0 0 ∧ rd ++ [r] = rs)) := by
          cases hk : cutL rest with
          | none =>
            rw [hk] at hcut
            subst hln
            exact ⟨rest, _, false, hcut, hrd, Nat.le_refl _, .inr ⟨rfl, rfl, (HCA.out.1.last hk).symm⟩⟩
          | some x =>
            rw [hk] at hcut
            obtain ⟨a5, c5, he, h1, h2, h3⟩ := hcut
            have hx := cut_len (r := x.1) (t := x.2) hk
            have hl : rest.length = x.1.length + 2 + x.2.length := by rw [hx]; simp; omega
            exact ⟨x.1, _, true, he, h1.drew q, by omega, .inl ⟨rfl, a5, c5, x.2, rfl, h2.drew q, HCA.out.1.next hk, by omega, fun b o e => by obtain ⟨o', e'⟩ := h3 b o e; exact HCA.out.2 b o' e'⟩⟩
        have HM := Lib.hid hmo
        have hfl2 : (rd ++ [r]).flatten.length ≤ n := by
          rcases hmo with ⟨-, a5, c5, t, -, -, hca, -, -⟩ | ⟨-, -, he⟩
          · exact Nat.le_trans hca.len hfl
          · rw [he]; exact hfl
        have hmx := most_snoc rd r
        have HFT : Hid ((rd ++ [r]).flatten = rd.flatten ++ r) := Lib.hid (by rw [List.flatten_append]; simp)
        have hmr2 : mostR 4 (rd ++ [r]) ≤ n + 4 := by rw [hmx]; omega
        clear hmo hcut hrz hrd hb2 ho2
        generalize wz.drewN q = w3 at hb3 ho3 hsr HM ⊢
        have hbs3 := hb3.size
        generalize hz1 : rd ++ [r] = rd2 at hfl2 hmx HFT hmr2 HM
        generalize hmxe : mostR 4 rd2 = mx at hmx hmr2
        have HMX := Lib.hid hmxe
        clear hmxe
        generalize mostR 4 rd = m0 at hmr hmx ⊢
        obtain ⟨rn, hrn2⟩ : ∃ rn, r.length = rn := ⟨_, rfl⟩
        rw [hrn2] at hrn hsr hmx ⊢
        clear hz1 hrn2
        go_upto_region 10 with fail
        go_cut [7] from 20 to 35 (fun v7 wx => v7 = .int .i64 (mx : Nat) ∧ wx = w3)
        case first =>
          by_cases hc : m0 ≤ rn
          · have HX := Lib.hid (show mx = rn by omega)
            clear hmx
            go_wp2_with fail
            all_goals
              go_meet
              case rel => exact ⟨by rw [HX.out] <;> (congr 1; omega), rfl⟩
          · have HX := Lib.hid (show mx = m0 by omega)
            clear hmx
            go_wp2_with fail
            all_goals
              go_meet
              case rel => exact ⟨by rw [HX.out] <;> (congr 1; omega), rfl⟩
        case rest =>
          obtain ⟨rfl, rfl⟩ := hcut
          clear hmx
          have hft := HFT.out
          have hlft : rd.flatten.length ≤ n := hfr
          go_wp2_with (at_builtin; refine append_sbp rfl (.tmp 33) (.tmp 34) rfl w.heap.size _ rd.flatten r a4 rn c4 rfl ho3 rfl hsr.2.2 hsr.1 (by omega) hbs3 ?_)
          intro v' w4 ho4 hA
          have hb4 := hA.bel _ _ hb3 (Nat.le_refl _)
          rw [← HFT.out] at ho4
          have HB3 := Lib.hid hb3
          clear ho3 hA hft hb3
          go_wp2_with fail
          go_roundw
          case rel =>
            refine ⟨rd2, hb4, by rw [HMX.out], ho4, hfl2, by rw [HMX.out]; exact hmr2, ?_⟩
            rcases HM.out with ⟨rfl, a5, c5, t, rfl, h1, h2, h3, h4⟩ | ⟨rfl, rfl, he⟩
            · exact .inl ⟨rfl, a5, c5, t, t.length, rfl, by omega, h1.far h4 HB3.out hb4, Lib.hid ⟨h2, h4⟩⟩
            · exact .inr ⟨rfl, Lib.hid he, rfl⟩
          case measure =>
            rcases HM.out with ⟨rfl, a5, c5, t, rfl, h1, h2, h3, h4⟩ | ⟨rfl, rfl, he⟩
            · simp [lenV, boolN]; omega
            · simp [lenV, boolN]
      · have hrs := HRS.out
        subst hrs
        have hpb : IsB rd.flatten := inB_isB HIB.out
        obtain ⟨ad, cp, rfl, hsp⟩ := ho.toSBC hpb (by omega)
        have HSH := Lib.hid (shown_any wr ad _ cp rd.flatten hsp (HE.out.below rb).letw)
        have hwm := wideN_most rd
        have hm4 := (most_le rd 4).1
        clear hpb
        generalize hF : rd.flatten = F at hfr hsp HSH HY ho ⊢
        generalize mostR 4 rd = M at hmr hwm hm4 HY ⊢
        clear hF
        go_wp2_with fail
        refine HSH.out.mono ?_
        rintro e w5 ⟨hb5, hsh⟩
        have hbw := rb.trans (hb5.mono hbs)
        clear HSH hsp
        cases hk : shownL F.length F with
        | none =>
          rw [hk] at hsh
          subst hsh
          have HN : Hid (backL l = none) := Lib.hid (by rw [HY.out, hk])
          clear hk
          go_wp2_with fail
          go_ret2
          exact back_none HN.out hbw
        | some x =>
          rw [hk] at hsh
          obtain ⟨v5, rfl, ho5, hix, hlx⟩ := hsh
          have HYX : Hid (backL l = if rowL M x = l then some x else none) := Lib.hid (by rw [HY.out, hk])
          have ho5 := OwnB.mono ho5 hbs
          have hxb := inB_isB hix
          obtain ⟨a5, c5, rfl, hs5⟩ := ho5.toSBC hxb (by omega)
          have hro := row_any w5 _ x hs5.1 (by omega) (M : Int) (by omega) (by omega) (HE.out.below hbw).letw
          rw [hwm] at hro
          have HRO := Lib.hid hro
          have HIX := Lib.hid hix
          obtain ⟨xn, hxn⟩ : ∃ xn, x.length = xn := ⟨_, rfl⟩
          rw [hxn] at hs5 hlx ho5 HRO ⊢
          have HXN := Lib.hid hxn
          clear hk hwm hro hxb hs5 hxn
          go_wp2_with fail
          refine HRO.out.mono ?_
          rintro e w6 ⟨v6, rfl, ho6, hb6⟩
          have HO5 := Lib.hid (ho5.below hb6)
          have hbw6 := hbw.trans (hb6.mono hbw.size)
          have hrl := rowL_len M x
          obtain ⟨a6, c6, rfl, hs6⟩ := ho6.toSBC (rowL_isB M x HIX.out) (by rw [HXN.out] at hrl; omega)
          have heq := equal_any w6 a6 a _ c6 n c (rowL M x) l hs6 (HS.out.below hbw6)
          have HEQ := Lib.hid heq
          generalize (rowL M x).length = rn at HEQ ⊢
          clear HRO ho6 hb6 hs6 heq hrl ho5
          go_wp2_with fail
          refine HEQ.out.mono ?_
          rintro e w7 ⟨rfl, rfl⟩
          clear HEQ
          by_cases hq : rowL M x = l
          · have HB : Hid (backL l = some x) := Lib.hid (by rw [HYX.out, if_pos hq])
            rw [decide_eq_true hq]
            clear hq
            go_wp2_with fail
            go_ret2
            exact back_some HB.out hbw6 HO5.out HIX.out (by rw [HXN.out, HLN.out]; omega)
          · have HB : Hid (backL l = none) := Lib.hid (by rw [HYX.out, if_neg hq])
            rw [decide_eq_false hq]
            clear hq
            go_wp2_with fail
            go_ret2
            exact back_none HB.out hbw6
end Go.Proofs.YtkiiidhfjieknaaDoor
