/-
  galleyref00.EqOptions of the same options; opts.Print.
-/
import Derived.Test.YtgepjjpcokbpjaaDoorOptM
import Derived.Test.YtgepjjpcokbpjaaDoorEqT
import Derived.Test.YtgepjjpcokbpjaaDoorLet
import Derived.Laws.AppendOwnNone
import Derived.Deep.DeepCutAuto
namespace Go.Proofs.YtgepjjpcokbpjaaDoor
open Go.RowKit

theorem eqTexts_same (w : World) (aa : Option Addr) (na ca : Nat) (a : List Str) (ha : TS w (.slice aa na ca) a) (ab : Option Addr) (nb cb : Nat) (hb : TS w (.slice ab nb cb) a) : Calls Tryd.prog 11 #[.slice aa na ca, .slice ab nb cb] w fun e w' => e = .returned (.bool true) ∧ ∃ n, w' = w.drewN n :=
  (eqTexts_any w aa na ca a ha ab nb cb a hb).mono fun _ _ ⟨e, r⟩ => ⟨by rw [e]; simp, r⟩
theorem eqParts_same (w : World) (aa : Option Addr) (na ca : Nat) (a : List Prt) (ha : PT w (.slice aa na ca) a) (ab : Option Addr) (nb cb : Nat) (hb : PT w (.slice ab nb cb) a) : Calls Tryd.prog 32 #[.slice aa na ca, .slice ab nb cb] w fun e w' => e = .returned (.bool true) ∧ ∃ n, w' = w.drewN n :=
  (eqParts_any w aa na ca a ha ab nb cb a hb).mono fun _ _ ⟨e, r⟩ => ⟨by rw [e]; simp, r⟩
def optV (o : Opt) (pv fv : Value) : Value := .agg #[.bool o.q, .bool o.e, .bool o.a, .bool o.i, pv, fv]
set_option maxHeartbeats 1000000 in
set_option maxRecDepth 100000 in
theorem eqOptions_same (w : World) (q e a i : Bool) (parts : List Prt) (files : List Str) (a1 : Option Addr) (n1 c1 : Nat) (p1 : PT w (.slice a1 n1 c1) parts) (b1 : Option Addr) (m1 d1 : Nat) (f1 : TS w (.slice b1 m1 d1) files)
    (a2 : Option Addr) (n2 c2 : Nat) (p2 : PT w (.slice a2 n2 c2) parts) (b2 : Option Addr) (m2 d2 : Nat) (f2 : TS w (.slice b2 m2 d2) files) :
    Calls Tryd.prog 13 #[.agg #[.bool q, .bool e, .bool a, .bool i, .slice a1 n1 c1, .slice b1 m1 d1], .agg #[.bool q, .bool e, .bool a, .bool i, .slice a2 n2 c2, .slice b2 m2 d2]] w fun e w' => e = .returned (.bool true) ∧ Below w.heap.size w w' := by
  have hb1 := (Below.refl w.heap.size w).alloc (Nat.le_refl _) (.cells #[.bool q, .bool e, .bool a, .bool i, .slice a1 n1 c1, .slice b1 m1 d1] 28)
  have hb2 := hb1.alloc hb1.size (.cells #[.bool q, .bool e, .bool a, .bool i, .slice a2 n2 c2, .slice b2 m2 d2] 28)
  have h1 := Lib.hid (eqParts_same _ _ _ _ parts (p1.below hb2) _ _ _ (p2.below hb2))
  have h2 := Lib.hid (fun n => eqTexts_same _ _ _ _ files ((f1.below hb2).below (below_drewN (Below.refl _ _) n)) _ _ _ ((f2.below hb2).below (below_drewN (Below.refl _ _) n)))
  have HB := Lib.hid hb2
  have q1 : (q == q) = true := by simp
  have q2 : (e == e) = true := by simp
  have q3 : (a == a) = true := by simp
  have q4 : (i == i) = true := by simp
  clear hb1 hb2 p1 f1 p2 f2
  go_enter Tryd.func13, Tryd.ntmps13
  go_wp2_with fail
  refine h1.out.mono ?_
  rintro r w1 ⟨rfl, n, rfl⟩
  go_wp2_with fail
  refine (h2.out n).mono ?_
  rintro r w1 ⟨rfl, n2, rfl⟩
  go_wp2_with fail
  go_ret
  exact ⟨rfl, below_drewN HB.out (n + n2)⟩

/-- append(l, s...): strings of another list. -/
theorem append_ts {ops : Array Oper} {rest : List Oper} {o : Oper} {a : Act} {w : World} {Q : Exit → Act → World → Prop} (hgd : o.guard = none) (s x : Operand)
    (ho : o.op = .call { callee := .builtin .append, args := #[s, x], argTypes := #[22, 22] })
    (base : Nat) (v : Value) (xs l : List Str) (ad : Option Addr) (n c : Nat) (hs : a.eval s = v) (hown : OwnT w base v xs) (hx : a.eval x = .slice ad n c) (hb : TS w (.slice ad n c) l)
    (hsum : xs.length + n ≤ 8796093022208) (hbase : base ≤ w.heap.size)
    (h : ∀ v' w', OwnT w' base v' (xs ++ l) → AppPost w w' base v v' → wpList Tryd.prog ops Q rest (a.put o.dst v') w') :
    wpList Tryd.prog ops Q (o :: rest) a w := by
  obtain ⟨i0, hi, hz0, hz1, hz2⟩ := info_parts infoT
  obtain ⟨hl, hn, hnc, hN⟩ := hb.len
  cases ad with
  | none =>
    have hc := hN rfl
    have hn0 : n = 0 := by omega
    subst hc hn0
    have : l = [] := List.eq_nil_of_length_eq_zero hl
    subst this
    refine wpList_append_own_none hgd s x 22 ho base 9 i0 1 Tryd.underlying22 hi v xs.length (xs.map Value.string) hs hown hx ?_
    exact h v w (by rw [List.append_nil]; exact hown) (app_post hown (Nat.le_refl _) hbase (Below.refl _ w) ⟨rfl, rfl, rfl, Nat.le_refl _, fun _ _ _ => rfl⟩ (.inl rfl))
  | some ad =>
    obtain ⟨-, hnews⟩ := hb.news
    refine wpList_append_own_at _ hgd s x 22 ho base 9 i0 (.string ByteArray.empty) 1 16 Tryd.underlying22 hi hz0 hz1 hz2 rfl (by decide) v xs.length (xs.map Value.string) hs hown ad n c (l.map Value.string) hx (by rw [List.length_map, hl, Nat.mul_one]) hnews (strs_one l) (by unfold maxLen; omega) (by omega) hbase ?_
    intro v' w' hown' hgrow _ hat
    refine h v' w' ?_ (app_post hown (Nat.le_refl _) hbase (Below.refl _ w) hgrow hat)
    unfold OwnT
    rw [List.length_append, List.map_append, hl]
    exact hown'

def printR (o : Opt) : List Str := if printable o = true then printL o else []
def flagL (q e s i : Bool) : List (Bool × Str) := [(q, str [45, 110]), (e, str [45, 69]), (s, str [45, 115]), (i, str [45, 105])]
def flagsTo (F : List (Bool × Str)) (k : Nat) : List Str := (F.take k).flatMap fun x => if x.1 then [x.2] else []
/-- Four cells in view: an Options box that stays. -/
structure PO (w wr : World) (bx : Nat) (cs : Array Value) (v : Value) (l : List Str) : Prop where
  own : OwnT wr w.heap.size v l
  box : wr.heap[bx]? = some (.cells cs 28 (0, 0))
  bel : Below w.heap.size w wr
theorem neTO : (9 : TypeId) ≠ 28 := by decide
theorem keepT_app {e e2 : TypeId} {w w' : World} {b b2 s n : Nat} {v v' : Value} {xs : List Value} (hv : w.ownsRow b e2 s v n xs) (hp : AppPost w w' b2 v v') (hne : e2 ≠ e) : ∀ (k : Nat) (cur : Array Value), w.heap[k]? = some (Obj.cells cur e (0, 0)) → w'.heap[k]? = w.heap[k]? := fun k cur hk =>
  hp.block k (Array.getElem?_eq_some_iff.1 hk).1 fun h => by
    rcases hv.2 with ⟨rfl, _⟩ | ⟨g, cap, cur', rfl, _, hg, _⟩
    · simp [Value.ownBlock] at h
    · simp only [Value.ownBlock, Option.some.injEq] at h
      subst h
      rw [hg] at hk
      simp only [Option.some.injEq, Obj.cells.injEq] at hk
      exact hne hk.2.1
theorem PO.app {w wr w' : World} {bx : Nat} {cs : Array Value} {v v' : Value} {l l' : List Str} (h : PO w wr bx cs v l) (ho : OwnT w' w.heap.size v' l') (hp : AppPost wr w' w.heap.size v v') : PO w w' bx cs v' l' :=
  ⟨ho, (keepT_app h.own hp neTO bx _ h.box).trans h.box, hp.bel _ _ h.bel (Nat.le_refl _)⟩
theorem own_belowT {w w' : World} {base : Nat} {e : TypeId} {n m : Nat} {v : Value} {xs : List Value} (h : w.ownsRow base e n v m xs) (hb : Below w.heap.size w w') : w'.ownsRow base e n v m xs :=
  World.ownsRow.kept h (row := none) ⟨hb.os, hb.tape, hb.output, hb.size, fun k hk _ => hb.block k hk⟩ (by cases v.ownBlock <;> simp)
theorem PO.below {w wr w' : World} {bx : Nat} {cs : Array Value} {v : Value} {l : List Str} (h : PO w wr bx cs v l) (hb : Below wr.heap.size wr w') : PO w w' bx cs v l :=
  ⟨own_belowT h.own hb, (hb.block bx (Array.getElem?_eq_some_iff.1 h.box).1).trans h.box, h.bel.trans (hb.mono h.bel.size)⟩
theorem PO.cell {w wr : World} {bx : Nat} {cs : Array Value} {v : Value} {l : List Str} (h : PO w wr bx cs v l) (j : Nat) : wr.cell? ⟨bx, j, none⟩ = cs[j]? := cell_of_row wr bx j _ _ (0, 0) h.box
theorem flag_at (q e s i : Bool) (k : Nat) (h : k < 4) : flagsTo (flagL q e s i) (k + 1) = flagsTo (flagL q e s i) k ++ (if ((flagL q e s i)[k]?.getD (false, ByteArray.empty)).1 then [((flagL q e s i)[k]?.getD (false, ByteArray.empty)).2] else []) := by
  unfold flagsTo
  rw [List.take_succ_eq_append_getElem (by simp [flagL]; omega), List.flatMap_append, List.getElem?_eq_getElem (by simp [flagL]; omega)]
  simp
theorem flags_len (q e s i : Bool) (k : Nat) (h : k ≤ 4) : (flagsTo (flagL q e s i) k).length ≤ 4 := by
  rcases (by omega : k = 0 ∨ k = 1 ∨ k = 2 ∨ k = 3 ∨ k = 4) with rfl | rfl | rfl | rfl | rfl <;> cases q <;> cases e <;> cases s <;> cases i <;> decide
theorem idx0 (w : World) (a0 a1 a2 a3 a4 a5 a6 a7 : Value) : Sem.run Tryd.prog (Instr.index 76 (.agg #[a0, a1, a2, a3, a4, a5, a6, a7]) (.int .i64 0)) w = .ok (.agg #[a0, a1]) w := by kernel_rfl
theorem idx1 (w : World) (a0 a1 a2 a3 a4 a5 a6 a7 : Value) : Sem.run Tryd.prog (Instr.index 76 (.agg #[a0, a1, a2, a3, a4, a5, a6, a7]) (.int .i64 1)) w = .ok (.agg #[a2, a3]) w := by kernel_rfl
theorem idx2 (w : World) (a0 a1 a2 a3 a4 a5 a6 a7 : Value) : Sem.run Tryd.prog (Instr.index 76 (.agg #[a0, a1, a2, a3, a4, a5, a6, a7]) (.int .i64 2)) w = .ok (.agg #[a4, a5]) w := by kernel_rfl
theorem idx3 (w : World) (a0 a1 a2 a3 a4 a5 a6 a7 : Value) : Sem.run Tryd.prog (Instr.index 76 (.agg #[a0, a1, a2, a3, a4, a5, a6, a7]) (.int .i64 3)) w = .ok (.agg #[a6, a7]) w := by kernel_rfl
theorem take_snocS {α : Type} (d : α) (l : List α) (k : Nat) (h : k < l.length) : l.take (k + 1) = l.take k ++ [l[k]?.getD d] := by
  rw [List.take_succ_eq_append_getElem h]
  simp [h]
theorem partW_len (l : List Prt) : (l.flatMap partW).length = 2 * l.length := by
  induction l with
  | nil => rfl
  | cons x l ih => rw [List.flatMap_cons, List.length_append, List.length_cons, ih]; simp [partW]; omega
def PrintOPost (w : World) (l : List Str) (e : Ending) (w' : World) : Prop := ∃ a c, e = .returned (.slice a l.length c) ∧ OwnT w' w.heap.size (.slice a l.length c) l ∧ Below w.heap.size w w'

set_option maxHeartbeats 4000000 in
set_option maxRecDepth 100000 in
theorem printO_any (w : World) (o : Opt) (ap : Option Addr) (np cp : Nat) (sp : PT w (.slice ap np cp) o.parts) (af : Option Addr) (nf cf : Nat) (sf : TS w (.slice af nf cf) o.files) (hnp : np ≤ 4294967296) (hnf : nf ≤ 4294967296) :
    Calls Tryd.prog 18 #[optV o (.slice ap np cp) (.slice af nf cf)] w (PrintOPost w (printR o)) := by
  obtain ⟨q, e, a, i, parts, files⟩ := o
  obtain ⟨hpl, -, -, -⟩ := sp.len
  obtain ⟨hfl, -, -, -⟩ := sf.len
  simp only at sp sf hpl hfl
  have HPL := Lib.hid hpl
  have HFL := Lib.hid hfl
  clear hpl hfl
  unfold optV
  go_enter Tryd.func18, Tryd.ntmps18
  have hb0 := (Below.refl w.heap.size w).alloc (Nat.le_refl _) (.cells #[.bool q, .bool e, .bool a, .bool i, .slice ap np cp, .slice af nf cf] 28)
  have hP0 : PO w (w.alloc (.cells #[.bool q, .bool e, .bool a, .bool i, .slice ap np cp, .slice af nf cf] 28)) w.heap.size #[.bool q, .bool e, .bool a, .bool i, .slice ap np cp, .slice af nf cf] (.slice none 0 0) [] := ⟨OwnT.nil _ _, heap_alloc_new w _, hb0⟩
  go_upto_region 1 with fail
  obtain ⟨bx, hbx⟩ : ∃ bx, w.heap.size = bx := ⟨_, rfl⟩
  rw [hbx] at hP0 ⊢
  have HSP := Lib.hid sp
  have HSF := Lib.hid sf
  generalize w.alloc (.cells #[.bool q, .bool e, .bool a, .bool i, .slice ap np cp, .slice af nf cf] 28) = w1 at hP0 ⊢
  have HP0 := Lib.hid hP0
  have c0 := hP0.cell 0
  have c1 := hP0.cell 1
  have c2 := hP0.cell 2
  have c3 := hP0.cell 3
  have c4 := hP0.cell 4
  clear hbx hb0 hP0 sp sf
  by_cases hai : i = true ∧ a = false
  · obtain ⟨rfl, rfl⟩ := hai
    have HR : Hid (printR ⟨q, e, false, true, parts, files⟩ = []) := Lib.hid (by unfold printR printable; simp)
    go_wp2_with fail
    go_ret
    rw [HR.out]
    exact ⟨none, 0, rfl, OwnT.nil _ _, HP0.out.bel⟩
  by_cases hn : np = 0
  · subst hn
    have hp : parts = [] := List.eq_nil_of_length_eq_zero HPL.out
    have HR : Hid (printR ⟨q, e, a, i, parts, files⟩ = []) := Lib.hid (by subst hp; unfold printR printable; simp)
    clear hp
    cases a <;> cases i
    all_goals first
      | exact absurd ⟨rfl, rfl⟩ hai
      | (go_wp2_with fail
         go_ret
         rw [HR.out]
         exact ⟨none, 0, rfl, OwnT.nil _ _, HP0.out.bel⟩)
  have hnq : ((np : Int) == 0) = false := by rw [beq_eq_false_iff_ne]; omega
  have hp : parts ≠ [] := fun e => hn (by rw [← HPL.out, e]; rfl)
  have hpr : ∀ (a i : Bool), ¬ (i = true ∧ a = false) → printR ⟨q, e, a, i, parts, files⟩ = flagsTo (flagL q e (a && !i) i) 4 ++ parts.flatMap partW ++ [str [45, 45]] ++ files := fun a i hai => by
    unfold printR printable
    have : parts.isEmpty = false := by simpa using hp
    rw [if_pos (by cases a <;> cases i <;> simp_all)]
    unfold printL flagsTo flagL flagW
    simp
  rcases (by cases a <;> cases i <;> simp_all : (a = false ∧ i = false) ∨ (a = true ∧ i = false) ∨ (a = true ∧ i = true)) with ⟨rfl, rfl⟩ | ⟨rfl, rfl⟩ | ⟨rfl, rfl⟩
  · have HR := Lib.hid (hpr _ _ hai)
    clear hpr hp hn hai
    go_upto_region 5 with fail
    go_loopw [3, 39] (fun v kx wr => ∃ k : Nat, k ≤ 4 ∧ kx = .int .i64 k ∧ PO w wr bx #[.bool q, .bool e, .bool false, .bool false, .slice ap np cp, .slice af nf cf] v (flagsTo (flagL q e false false) k)) (fun _ kx _ => 4 - (intOf kx).toNat)
    case atStart => exact ⟨0, Nat.zero_le _, rfl, HP0.out⟩
    case round =>
      clear HP0 c0 c1 c2 c3 c4
      obtain ⟨k, hk, rfl, hP⟩ := hrel
      by_cases hlt : k < 4
      · have hF := flag_at q e false false k hlt
        rcases (by omega : k = 0 ∨ k = 1 ∨ k = 2 ∨ k = 3) with rfl | rfl | rfl | rfl
        · cases q with
          | true =>
            have hb := (Below.refl wr.heap.size wr).alloc (Nat.le_refl _) (.cells #[.bool true, .string (str [45, 110])] 75)
            have HPb := Lib.hid (hP.below hb)
            have hown := HPb.out.own
            have hbs := HPb.out.bel.size
            have HF : Hid (flagsTo (flagL true e false false) 1 = flagsTo (flagL true e false false) 0 ++ [str [45, 110]]) := Lib.hid (by rw [hF]; rfl)
            have hlen : (flagsTo (flagL true e false false) 0).length ≤ 4 := flags_len _ _ _ _ _ (by omega)
            clear hP hF hb
            have hix := fun w a0 a1 a2 a3 a4 a5 a6 a7 => idx0 w a0 a1 a2 a3 a4 a5 a6 a7
            go_wp2_with (at_builtin; refine append_tn rfl (.tmp 44) (.tmp 47) rfl w.heap.size _ _ [str [45, 110]] _ 1 rfl rfl rfl hown _ rfl (by simp) (by omega) hbs ?_)
            intro v' w4 ho4 hp4
            rw [← HF.out] at ho4
            have HP4 := Lib.hid (HPb.out.app ho4 hp4)
            clear ho4 hp4 hown HPb
            go_wp2_with fail
            go_roundw
            case rel => exact ⟨1, by omega, by go_num, HP4.out⟩
            case measure => simp [intOf]
          | false =>
            have hb := (Below.refl wr.heap.size wr).alloc (Nat.le_refl _) (.cells #[.bool false, .string (str [45, 110])] 75)
            have HF : Hid (flagsTo (flagL false e false false) 1 = flagsTo (flagL false e false false) 0) := Lib.hid (by rw [hF]; simp [flagL])
            have HPb := Lib.hid (hP.below hb)
            rw [← HF.out] at HPb
            clear hP hF hb
            have hix := fun w a0 a1 a2 a3 a4 a5 a6 a7 => idx0 w a0 a1 a2 a3 a4 a5 a6 a7
            go_wp2_with fail
            go_roundw
            case rel => exact ⟨1, by omega, by go_num, HPb.out⟩
            case measure => simp [intOf]
        · cases e with
          | true =>
            have hb := (Below.refl wr.heap.size wr).alloc (Nat.le_refl _) (.cells #[.bool true, .string (str [45, 69])] 75)
            have HPb := Lib.hid (hP.below hb)
            have hown := HPb.out.own
            have hbs := HPb.out.bel.size
            have HF : Hid (flagsTo (flagL q true false false) 2 = flagsTo (flagL q true false false) 1 ++ [str [45, 69]]) := Lib.hid (by rw [hF]; rfl)
            have hlen : (flagsTo (flagL q true false false) 1).length ≤ 4 := flags_len _ _ _ _ _ (by omega)
            clear hP hF hb
            have hix := fun w a0 a1 a2 a3 a4 a5 a6 a7 => idx1 w a0 a1 a2 a3 a4 a5 a6 a7
            go_wp2_with (at_builtin; refine append_tn rfl (.tmp 44) (.tmp 47) rfl w.heap.size _ _ [str [45, 69]] _ 1 rfl rfl rfl hown _ rfl (by simp) (by omega) hbs ?_)
            intro v' w4 ho4 hp4
            rw [← HF.out] at ho4
            have HP4 := Lib.hid (HPb.out.app ho4 hp4)
            clear ho4 hp4 hown HPb
            go_wp2_with fail
            go_roundw
            case rel => exact ⟨2, by omega, by go_num, HP4.out⟩
            case measure => simp [intOf]
          | false =>
            have hb := (Below.refl wr.heap.size wr).alloc (Nat.le_refl _) (.cells #[.bool false, .string (str [45, 69])] 75)
            have HF : Hid (flagsTo (flagL q false false false) 2 = flagsTo (flagL q false false false) 1) := Lib.hid (by rw [hF]; simp [flagL])
            have HPb := Lib.hid (hP.below hb)
            rw [← HF.out] at HPb
            clear hP hF hb
            have hix := fun w a0 a1 a2 a3 a4 a5 a6 a7 => idx1 w a0 a1 a2 a3 a4 a5 a6 a7
            go_wp2_with fail
            go_roundw
            case rel => exact ⟨2, by omega, by go_num, HPb.out⟩
            case measure => simp [intOf]
        · have hb := (Below.refl wr.heap.size wr).alloc (Nat.le_refl _) (.cells #[.bool false, .string (str [45, 115])] 75)
          have HF : Hid (flagsTo (flagL q e false false) 3 = flagsTo (flagL q e false false) 2) := Lib.hid (by rw [hF]; simp [flagL])
          have HPb := Lib.hid (hP.below hb)
          rw [← HF.out] at HPb
          clear hP hF hb
          have hix := fun w a0 a1 a2 a3 a4 a5 a6 a7 => idx2 w a0 a1 a2 a3 a4 a5 a6 a7
          go_wp2_with fail
          go_roundw
          case rel => exact ⟨3, by omega, by go_num, HPb.out⟩
          case measure => simp [intOf]
        · have hb := (Below.refl wr.heap.size wr).alloc (Nat.le_refl _) (.cells #[.bool false, .string (str [45, 105])] 75)
          have HF : Hid (flagsTo (flagL q e false false) 4 = flagsTo (flagL q e false false) 3) := Lib.hid (by rw [hF]; simp [flagL])
          have HPb := Lib.hid (hP.below hb)
          rw [← HF.out] at HPb
          clear hP hF hb
          have hix := fun w a0 a1 a2 a3 a4 a5 a6 a7 => idx3 w a0 a1 a2 a3 a4 a5 a6 a7
          go_wp2_with fail
          go_roundw
          case rel => exact ⟨4, by omega, by go_num, HPb.out⟩
          case measure => simp [intOf]
      · have hk4 : k = 4 := by omega
        rw [hk4] at hP
        clear hk4
        obtain ⟨fl, hfl⟩ : ∃ fl, flagsTo (flagL q e false false) 4 = fl := ⟨_, rfl⟩
        have HRR : Hid (printR ⟨q, e, false, false, parts, files⟩ = fl ++ parts.flatMap partW ++ [str [45, 45]] ++ files) := Lib.hid (by rw [← hfl]; exact HR.out)
        have hfn : fl.length ≤ 4 := by rw [← hfl]; exact flags_len _ _ _ _ _ (by omega)
        rw [hfl] at hP
        have HP := Lib.hid hP
        have c4 := hP.cell 4
        clear hP HR hfl
        go_wp2_with fail
        go_loopw [3, 53] (fun v jx wr => ∃ j : Nat, j ≤ np ∧ jx = .int .i64 j ∧ PO w wr bx #[.bool q, .bool e, .bool false, .bool false, .slice ap np cp, .slice af nf cf] v (fl ++ (parts.take j).flatMap partW)) (fun _ jx _ => np - (intOf jx).toNat)
        case atStart => exact ⟨0, Nat.zero_le _, rfl, by simpa using HP.out⟩
        case round =>
          clear HP c4
          obtain ⟨j, hj, rfl, hP⟩ := hrel
          by_cases hlt2 : j < np
          · obtain ⟨b, o, rfl, hc⟩ := (HSP.out.below hP.bel).read j hlt2
            obtain ⟨d1, d2⟩ := hc j hlt2
            have hst := take_snocS (false, ByteArray.empty) parts j (by rw [HPL.out]; exact hlt2)
            have hlen : (fl ++ (parts.take j).flatMap partW).length ≤ 4 + 2 * j := by
              rw [List.length_append]
              have := partW_len (parts.take j)
              have : (parts.take j).length ≤ j := List.length_take_le _ _
              omega
            generalize parts[j]?.getD (false, ByteArray.empty) = x at d1 d2 hst
            obtain ⟨x1, x2⟩ := x
            simp only at d1 d2
            obtain ⟨pre, hpre⟩ : ∃ pre, fl ++ (parts.take j).flatMap partW = pre := ⟨_, rfl⟩
            have HPRE := Lib.hid hpre
            rw [hpre] at hP hlen
            clear hpre
            have hb := (Below.refl wr.heap.size wr).alloc (Nat.le_refl _) (.cells #[.bool x1, .string x2] 66)
            have HPb := Lib.hid (hP.below hb)
            have hown := HPb.out.own
            have hbs := HPb.out.bel.size
            have HST := Lib.hid hst
            clear hP hb hc hst
            cases x1 with
            | true =>
              have HF : Hid (fl ++ (parts.take (j + 1)).flatMap partW = pre ++ [str [45, 102], x2]) := Lib.hid (by rw [← HPRE.out, HST.out, List.flatMap_append, List.append_assoc]; rfl)
              go_wp2_with (at_builtin; refine append_tn rfl (.tmp 59) (.tmp 62) rfl w.heap.size _ _ [str [45, 102], x2] _ 2 rfl rfl rfl hown _ rfl (by simp) (by omega) hbs ?_)
              intro v' w4 ho4 hp4
              rw [← HF.out] at ho4
              have HP4 := Lib.hid (HPb.out.app ho4 hp4)
              clear ho4 hp4 hown HPb d1 d2
              go_wp2_with fail
              go_roundw
              case rel => exact ⟨j + 1, by omega, by go_num, HP4.out⟩
              case measure => simp [intOf]; omega
            | false =>
              have HF : Hid (fl ++ (parts.take (j + 1)).flatMap partW = pre ++ [str [45, 101], x2]) := Lib.hid (by rw [← HPRE.out, HST.out, List.flatMap_append, List.append_assoc]; rfl)
              go_wp2_with (at_builtin; refine append_tn rfl (.tmp 64) (.tmp 67) rfl w.heap.size _ _ [str [45, 101], x2] _ 2 rfl rfl rfl hown _ rfl (by simp) (by omega) hbs ?_)
              intro v' w4 ho4 hp4
              rw [← HF.out] at ho4
              have HP4 := Lib.hid (HPb.out.app ho4 hp4)
              clear ho4 hp4 hown HPb d1 d2
              go_wp2_with fail
              go_roundw
              case rel => exact ⟨j + 1, by omega, by go_num, HP4.out⟩
              case measure => simp [intOf]; omega
          · have e : parts.take j = parts := List.take_of_length_le (by rw [HPL.out]; omega)
            rw [e] at hP
            have hlen : (fl ++ parts.flatMap partW).length ≤ 4 + 2 * np := by
              rw [List.length_append]
              have := partW_len parts
              have := HPL.out
              omega
            obtain ⟨pre, hpre⟩ : ∃ pre, fl ++ parts.flatMap partW = pre := ⟨_, rfl⟩
            rw [hpre] at hP hlen HRR
            have HP := Lib.hid hP
            have hown := hP.own
            have hbs := hP.bel.size
            clear hP e hpre
            go_wp2_with (at_builtin; refine append_tn rfl (.tmp 70) (.tmp 71) rfl w.heap.size _ _ [str [45, 45]] _ 1 rfl rfl rfl hown _ rfl rfl (by omega) hbs ?_)
            intro v' w4 ho4 hp4
            obtain ⟨pre2, hpre2⟩ : ∃ p, pre ++ [str [45, 45]] = p := ⟨_, rfl⟩
            have hlen2 : pre2.length ≤ 5 + 2 * np := by rw [← hpre2, List.length_append]; simp only [List.length_cons, List.length_nil]; omega
            rw [hpre2] at ho4 HRR
            have hP4 := HP.out.app ho4 hp4
            have c5 := hP4.cell 5
            have hown := hP4.own
            have hbs := hP4.bel.size
            have hts := HSF.out.below hP4.bel
            have HP4 := Lib.hid hP4
            clear ho4 hp4 HP hP4 hpre2
            go_wp2_with (at_builtin; refine append_ts rfl (.tmp 73) (.tmp 75) rfl w.heap.size _ _ files af nf cf rfl hown rfl hts (by omega) hbs ?_)
            intro v' w5 ho5 hp5
            obtain ⟨fin, hfin⟩ : ∃ p, pre2 ++ files = p := ⟨_, rfl⟩
            rw [hfin] at ho5 HRR
            clear hfin
            have HP5 := Lib.hid (HP4.out.app ho5 hp5)
            obtain ⟨av, cv, hv⟩ := own_shape ho5
            subst hv
            clear ho5 hp5 hown hts c5 HP4
            go_wp2_with fail
            go_ret
            rw [HRR.out]
            exact ⟨av, cv, rfl, HP5.out.own, HP5.out.bel⟩
  · have HR := Lib.hid (hpr _ _ hai)
    clear hpr hp hn hai
    go_upto_region 5 with fail
    go_loopw [3, 39] (fun v kx wr => ∃ k : Nat, k ≤ 4 ∧ kx = .int .i64 k ∧ PO w wr bx #[.bool q, .bool e, .bool true, .bool false, .slice ap np cp, .slice af nf cf] v (flagsTo (flagL q e true false) k)) (fun _ kx _ => 4 - (intOf kx).toNat)
    case atStart => exact ⟨0, Nat.zero_le _, rfl, HP0.out⟩
    case round =>
      clear HP0 c0 c1 c2 c3 c4
      obtain ⟨k, hk, rfl, hP⟩ := hrel
      by_cases hlt : k < 4
      · have hF := flag_at q e true false k hlt
        rcases (by omega : k = 0 ∨ k = 1 ∨ k = 2 ∨ k = 3) with rfl | rfl | rfl | rfl
        · cases q with
          | true =>
            have hb := (Below.refl wr.heap.size wr).alloc (Nat.le_refl _) (.cells #[.bool true, .string (str [45, 110])] 75)
            have HPb := Lib.hid (hP.below hb)
            have hown := HPb.out.own
            have hbs := HPb.out.bel.size
            have HF : Hid (flagsTo (flagL true e true false) 1 = flagsTo (flagL true e true false) 0 ++ [str [45, 110]]) := Lib.hid (by rw [hF]; rfl)
            have hlen : (flagsTo (flagL true e true false) 0).length ≤ 4 := flags_len _ _ _ _ _ (by omega)
            clear hP hF hb
            have hix := fun w a0 a1 a2 a3 a4 a5 a6 a7 => idx0 w a0 a1 a2 a3 a4 a5 a6 a7
            go_wp2_with (at_builtin; refine append_tn rfl (.tmp 44) (.tmp 47) rfl w.heap.size _ _ [str [45, 110]] _ 1 rfl rfl rfl hown _ rfl (by simp) (by omega) hbs ?_)
            intro v' w4 ho4 hp4
            rw [← HF.out] at ho4
            have HP4 := Lib.hid (HPb.out.app ho4 hp4)
            clear ho4 hp4 hown HPb
            go_wp2_with fail
            go_roundw
            case rel => exact ⟨1, by omega, by go_num, HP4.out⟩
            case measure => simp [intOf]
          | false =>
            have hb := (Below.refl wr.heap.size wr).alloc (Nat.le_refl _) (.cells #[.bool false, .string (str [45, 110])] 75)
            have HF : Hid (flagsTo (flagL false e true false) 1 = flagsTo (flagL false e true false) 0) := Lib.hid (by rw [hF]; simp [flagL])
            have HPb := Lib.hid (hP.below hb)
            rw [← HF.out] at HPb
            clear hP hF hb
            have hix := fun w a0 a1 a2 a3 a4 a5 a6 a7 => idx0 w a0 a1 a2 a3 a4 a5 a6 a7
            go_wp2_with fail
            go_roundw
            case rel => exact ⟨1, by omega, by go_num, HPb.out⟩
            case measure => simp [intOf]
        · cases e with
          | true =>
            have hb := (Below.refl wr.heap.size wr).alloc (Nat.le_refl _) (.cells #[.bool true, .string (str [45, 69])] 75)
            have HPb := Lib.hid (hP.below hb)
            have hown := HPb.out.own
            have hbs := HPb.out.bel.size
            have HF : Hid (flagsTo (flagL q true true false) 2 = flagsTo (flagL q true true false) 1 ++ [str [45, 69]]) := Lib.hid (by rw [hF]; rfl)
            have hlen : (flagsTo (flagL q true true false) 1).length ≤ 4 := flags_len _ _ _ _ _ (by omega)
            clear hP hF hb
            have hix := fun w a0 a1 a2 a3 a4 a5 a6 a7 => idx1 w a0 a1 a2 a3 a4 a5 a6 a7
            go_wp2_with (at_builtin; refine append_tn rfl (.tmp 44) (.tmp 47) rfl w.heap.size _ _ [str [45, 69]] _ 1 rfl rfl rfl hown _ rfl (by simp) (by omega) hbs ?_)
            intro v' w4 ho4 hp4
            rw [← HF.out] at ho4
            have HP4 := Lib.hid (HPb.out.app ho4 hp4)
            clear ho4 hp4 hown HPb
            go_wp2_with fail
            go_roundw
            case rel => exact ⟨2, by omega, by go_num, HP4.out⟩
            case measure => simp [intOf]
          | false =>
            have hb := (Below.refl wr.heap.size wr).alloc (Nat.le_refl _) (.cells #[.bool false, .string (str [45, 69])] 75)
            have HF : Hid (flagsTo (flagL q false true false) 2 = flagsTo (flagL q false true false) 1) := Lib.hid (by rw [hF]; simp [flagL])
            have HPb := Lib.hid (hP.below hb)
            rw [← HF.out] at HPb
            clear hP hF hb
            have hix := fun w a0 a1 a2 a3 a4 a5 a6 a7 => idx1 w a0 a1 a2 a3 a4 a5 a6 a7
            go_wp2_with fail
            go_roundw
            case rel => exact ⟨2, by omega, by go_num, HPb.out⟩
            case measure => simp [intOf]
        · have hb := (Below.refl wr.heap.size wr).alloc (Nat.le_refl _) (.cells #[.bool true, .string (str [45, 115])] 75)
          have HPb := Lib.hid (hP.below hb)
          have hown := HPb.out.own
          have hbs := HPb.out.bel.size
          have HF : Hid (flagsTo (flagL q e true false) 3 = flagsTo (flagL q e true false) 2 ++ [str [45, 115]]) := Lib.hid (by rw [hF]; rfl)
          have hlen : (flagsTo (flagL q e true false) 2).length ≤ 4 := flags_len _ _ _ _ _ (by omega)
          clear hP hF hb
          have hix := fun w a0 a1 a2 a3 a4 a5 a6 a7 => idx2 w a0 a1 a2 a3 a4 a5 a6 a7
          go_wp2_with (at_builtin; refine append_tn rfl (.tmp 44) (.tmp 47) rfl w.heap.size _ _ [str [45, 115]] _ 1 rfl rfl rfl hown _ rfl (by simp) (by omega) hbs ?_)
          intro v' w4 ho4 hp4
          rw [← HF.out] at ho4
          have HP4 := Lib.hid (HPb.out.app ho4 hp4)
          clear ho4 hp4 hown HPb
          go_wp2_with fail
          go_roundw
          case rel => exact ⟨3, by omega, by go_num, HP4.out⟩
          case measure => simp [intOf]
        · have hb := (Below.refl wr.heap.size wr).alloc (Nat.le_refl _) (.cells #[.bool false, .string (str [45, 105])] 75)
          have HF : Hid (flagsTo (flagL q e true false) 4 = flagsTo (flagL q e true false) 3) := Lib.hid (by rw [hF]; simp [flagL])
          have HPb := Lib.hid (hP.below hb)
          rw [← HF.out] at HPb
          clear hP hF hb
          have hix := fun w a0 a1 a2 a3 a4 a5 a6 a7 => idx3 w a0 a1 a2 a3 a4 a5 a6 a7
          go_wp2_with fail
          go_roundw
          case rel => exact ⟨4, by omega, by go_num, HPb.out⟩
          case measure => simp [intOf]
      · have hk4 : k = 4 := by omega
        rw [hk4] at hP
        clear hk4
        obtain ⟨fl, hfl⟩ : ∃ fl, flagsTo (flagL q e true false) 4 = fl := ⟨_, rfl⟩
        have HRR : Hid (printR ⟨q, e, true, false, parts, files⟩ = fl ++ parts.flatMap partW ++ [str [45, 45]] ++ files) := Lib.hid (by rw [← hfl]; exact HR.out)
        have hfn : fl.length ≤ 4 := by rw [← hfl]; exact flags_len _ _ _ _ _ (by omega)
        rw [hfl] at hP
        have HP := Lib.hid hP
        have c4 := hP.cell 4
        clear hP HR hfl
        go_wp2_with fail
        go_loopw [3, 53] (fun v jx wr => ∃ j : Nat, j ≤ np ∧ jx = .int .i64 j ∧ PO w wr bx #[.bool q, .bool e, .bool true, .bool false, .slice ap np cp, .slice af nf cf] v (fl ++ (parts.take j).flatMap partW)) (fun _ jx _ => np - (intOf jx).toNat)
        case atStart => exact ⟨0, Nat.zero_le _, rfl, by simpa using HP.out⟩
        case round =>
          clear HP c4
          obtain ⟨j, hj, rfl, hP⟩ := hrel
          by_cases hlt2 : j < np
          · obtain ⟨b, o, rfl, hc⟩ := (HSP.out.below hP.bel).read j hlt2
            obtain ⟨d1, d2⟩ := hc j hlt2
            have hst := take_snocS (false, ByteArray.empty) parts j (by rw [HPL.out]; exact hlt2)
            have hlen : (fl ++ (parts.take j).flatMap partW).length ≤ 4 + 2 * j := by
              rw [List.length_append]
              have := partW_len (parts.take j)
              have : (parts.take j).length ≤ j := List.length_take_le _ _
              omega
            generalize parts[j]?.getD (false, ByteArray.empty) = x at d1 d2 hst
            obtain ⟨x1, x2⟩ := x
            simp only at d1 d2
            obtain ⟨pre, hpre⟩ : ∃ pre, fl ++ (parts.take j).flatMap partW = pre := ⟨_, rfl⟩
            have HPRE := Lib.hid hpre
            rw [hpre] at hP hlen
            clear hpre
            have hb := (Below.refl wr.heap.size wr).alloc (Nat.le_refl _) (.cells #[.bool x1, .string x2] 66)
            have HPb := Lib.hid (hP.below hb)
            have hown := HPb.out.own
            have hbs := HPb.out.bel.size
            have HST := Lib.hid hst
            clear hP hb hc hst
            cases x1 with
            | true =>
              have HF : Hid (fl ++ (parts.take (j + 1)).flatMap partW = pre ++ [str [45, 102], x2]) := Lib.hid (by rw [← HPRE.out, HST.out, List.flatMap_append, List.append_assoc]; rfl)
              go_wp2_with (at_builtin; refine append_tn rfl (.tmp 59) (.tmp 62) rfl w.heap.size _ _ [str [45, 102], x2] _ 2 rfl rfl rfl hown _ rfl (by simp) (by omega) hbs ?_)
              intro v' w4 ho4 hp4
              rw [← HF.out] at ho4
              have HP4 := Lib.hid (HPb.out.app ho4 hp4)
              clear ho4 hp4 hown HPb d1 d2
              go_wp2_with fail
              go_roundw
              case rel => exact ⟨j + 1, by omega, by go_num, HP4.out⟩
              case measure => simp [intOf]; omega
            | false =>
              have HF : Hid (fl ++ (parts.take (j + 1)).flatMap partW = pre ++ [str [45, 101], x2]) := Lib.hid (by rw [← HPRE.out, HST.out, List.flatMap_append, List.append_assoc]; rfl)
              go_wp2_with (at_builtin; refine append_tn rfl (.tmp 64) (.tmp 67) rfl w.heap.size _ _ [str [45, 101], x2] _ 2 rfl rfl rfl hown _ rfl (by simp) (by omega) hbs ?_)
              intro v' w4 ho4 hp4
              rw [← HF.out] at ho4
              have HP4 := Lib.hid (HPb.out.app ho4 hp4)
              clear ho4 hp4 hown HPb d1 d2
              go_wp2_with fail
              go_roundw
              case rel => exact ⟨j + 1, by omega, by go_num, HP4.out⟩
              case measure => simp [intOf]; omega
          · have e : parts.take j = parts := List.take_of_length_le (by rw [HPL.out]; omega)
            rw [e] at hP
            have hlen : (fl ++ parts.flatMap partW).length ≤ 4 + 2 * np := by
              rw [List.length_append]
              have := partW_len parts
              have := HPL.out
              omega
            obtain ⟨pre, hpre⟩ : ∃ pre, fl ++ parts.flatMap partW = pre := ⟨_, rfl⟩
            rw [hpre] at hP hlen HRR
            have HP := Lib.hid hP
            have hown := hP.own
            have hbs := hP.bel.size
            clear hP e hpre
            go_wp2_with (at_builtin; refine append_tn rfl (.tmp 70) (.tmp 71) rfl w.heap.size _ _ [str [45, 45]] _ 1 rfl rfl rfl hown _ rfl rfl (by omega) hbs ?_)
            intro v' w4 ho4 hp4
            obtain ⟨pre2, hpre2⟩ : ∃ p, pre ++ [str [45, 45]] = p := ⟨_, rfl⟩
            have hlen2 : pre2.length ≤ 5 + 2 * np := by rw [← hpre2, List.length_append]; simp only [List.length_cons, List.length_nil]; omega
            rw [hpre2] at ho4 HRR
            have hP4 := HP.out.app ho4 hp4
            have c5 := hP4.cell 5
            have hown := hP4.own
            have hbs := hP4.bel.size
            have hts := HSF.out.below hP4.bel
            have HP4 := Lib.hid hP4
            clear ho4 hp4 HP hP4 hpre2
            go_wp2_with (at_builtin; refine append_ts rfl (.tmp 73) (.tmp 75) rfl w.heap.size _ _ files af nf cf rfl hown rfl hts (by omega) hbs ?_)
            intro v' w5 ho5 hp5
            obtain ⟨fin, hfin⟩ : ∃ p, pre2 ++ files = p := ⟨_, rfl⟩
            rw [hfin] at ho5 HRR
            clear hfin
            have HP5 := Lib.hid (HP4.out.app ho5 hp5)
            obtain ⟨av, cv, hv⟩ := own_shape ho5
            subst hv
            clear ho5 hp5 hown hts c5 HP4
            go_wp2_with fail
            go_ret
            rw [HRR.out]
            exact ⟨av, cv, rfl, HP5.out.own, HP5.out.bel⟩
  · have HR := Lib.hid (hpr _ _ hai)
    clear hpr hp hn hai
    go_upto_region 5 with fail
    go_loopw [3, 39] (fun v kx wr => ∃ k : Nat, k ≤ 4 ∧ kx = .int .i64 k ∧ PO w wr bx #[.bool q, .bool e, .bool true, .bool true, .slice ap np cp, .slice af nf cf] v (flagsTo (flagL q e false true) k)) (fun _ kx _ => 4 - (intOf kx).toNat)
    case atStart => exact ⟨0, Nat.zero_le _, rfl, HP0.out⟩
    case round =>
      clear HP0 c0 c1 c2 c3 c4
      obtain ⟨k, hk, rfl, hP⟩ := hrel
      by_cases hlt : k < 4
      · have hF := flag_at q e false true k hlt
        rcases (by omega : k = 0 ∨ k = 1 ∨ k = 2 ∨ k = 3) with rfl | rfl | rfl | rfl
        · cases q with
          | true =>
            have hb := (Below.refl wr.heap.size wr).alloc (Nat.le_refl _) (.cells #[.bool true, .string (str [45, 110])] 75)
            have HPb := Lib.hid (hP.below hb)
            have hown := HPb.out.own
            have hbs := HPb.out.bel.size
            have HF : Hid (flagsTo (flagL true e false true) 1 = flagsTo (flagL true e false true) 0 ++ [str [45, 110]]) := Lib.hid (by rw [hF]; rfl)
            have hlen : (flagsTo (flagL true e false true) 0).length ≤ 4 := flags_len _ _ _ _ _ (by omega)
            clear hP hF hb
            have hix := fun w a0 a1 a2 a3 a4 a5 a6 a7 => idx0 w a0 a1 a2 a3 a4 a5 a6 a7
            go_wp2_with (at_builtin; refine append_tn rfl (.tmp 44) (.tmp 47) rfl w.heap.size _ _ [str [45, 110]] _ 1 rfl rfl rfl hown _ rfl (by simp) (by omega) hbs ?_)
            intro v' w4 ho4 hp4
            rw [← HF.out] at ho4
            have HP4 := Lib.hid (HPb.out.app ho4 hp4)
            clear ho4 hp4 hown HPb
            go_wp2_with fail
            go_roundw
            case rel => exact ⟨1, by omega, by go_num, HP4.out⟩
            case measure => simp [intOf]
          | false =>
            have hb := (Below.refl wr.heap.size wr).alloc (Nat.le_refl _) (.cells #[.bool false, .string (str [45, 110])] 75)
            have HF : Hid (flagsTo (flagL false e false true) 1 = flagsTo (flagL false e false true) 0) := Lib.hid (by rw [hF]; simp [flagL])
            have HPb := Lib.hid (hP.below hb)
            rw [← HF.out] at HPb
            clear hP hF hb
            have hix := fun w a0 a1 a2 a3 a4 a5 a6 a7 => idx0 w a0 a1 a2 a3 a4 a5 a6 a7
            go_wp2_with fail
            go_roundw
            case rel => exact ⟨1, by omega, by go_num, HPb.out⟩
            case measure => simp [intOf]
        · cases e with
          | true =>
            have hb := (Below.refl wr.heap.size wr).alloc (Nat.le_refl _) (.cells #[.bool true, .string (str [45, 69])] 75)
            have HPb := Lib.hid (hP.below hb)
            have hown := HPb.out.own
            have hbs := HPb.out.bel.size
            have HF : Hid (flagsTo (flagL q true false true) 2 = flagsTo (flagL q true false true) 1 ++ [str [45, 69]]) := Lib.hid (by rw [hF]; rfl)
            have hlen : (flagsTo (flagL q true false true) 1).length ≤ 4 := flags_len _ _ _ _ _ (by omega)
            clear hP hF hb
            have hix := fun w a0 a1 a2 a3 a4 a5 a6 a7 => idx1 w a0 a1 a2 a3 a4 a5 a6 a7
            go_wp2_with (at_builtin; refine append_tn rfl (.tmp 44) (.tmp 47) rfl w.heap.size _ _ [str [45, 69]] _ 1 rfl rfl rfl hown _ rfl (by simp) (by omega) hbs ?_)
            intro v' w4 ho4 hp4
            rw [← HF.out] at ho4
            have HP4 := Lib.hid (HPb.out.app ho4 hp4)
            clear ho4 hp4 hown HPb
            go_wp2_with fail
            go_roundw
            case rel => exact ⟨2, by omega, by go_num, HP4.out⟩
            case measure => simp [intOf]
          | false =>
            have hb := (Below.refl wr.heap.size wr).alloc (Nat.le_refl _) (.cells #[.bool false, .string (str [45, 69])] 75)
            have HF : Hid (flagsTo (flagL q false false true) 2 = flagsTo (flagL q false false true) 1) := Lib.hid (by rw [hF]; simp [flagL])
            have HPb := Lib.hid (hP.below hb)
            rw [← HF.out] at HPb
            clear hP hF hb
            have hix := fun w a0 a1 a2 a3 a4 a5 a6 a7 => idx1 w a0 a1 a2 a3 a4 a5 a6 a7
            go_wp2_with fail
            go_roundw
            case rel => exact ⟨2, by omega, by go_num, HPb.out⟩
            case measure => simp [intOf]
        · have hb := (Below.refl wr.heap.size wr).alloc (Nat.le_refl _) (.cells #[.bool false, .string (str [45, 115])] 75)
          have HF : Hid (flagsTo (flagL q e false true) 3 = flagsTo (flagL q e false true) 2) := Lib.hid (by rw [hF]; simp [flagL])
          have HPb := Lib.hid (hP.below hb)
          rw [← HF.out] at HPb
          clear hP hF hb
          have hix := fun w a0 a1 a2 a3 a4 a5 a6 a7 => idx2 w a0 a1 a2 a3 a4 a5 a6 a7
          go_wp2_with fail
          go_roundw
          case rel => exact ⟨3, by omega, by go_num, HPb.out⟩
          case measure => simp [intOf]
        · have hb := (Below.refl wr.heap.size wr).alloc (Nat.le_refl _) (.cells #[.bool true, .string (str [45, 105])] 75)
          have HPb := Lib.hid (hP.below hb)
          have hown := HPb.out.own
          have hbs := HPb.out.bel.size
          have HF : Hid (flagsTo (flagL q e false true) 4 = flagsTo (flagL q e false true) 3 ++ [str [45, 105]]) := Lib.hid (by rw [hF]; rfl)
          have hlen : (flagsTo (flagL q e false true) 3).length ≤ 4 := flags_len _ _ _ _ _ (by omega)
          clear hP hF hb
          have hix := fun w a0 a1 a2 a3 a4 a5 a6 a7 => idx3 w a0 a1 a2 a3 a4 a5 a6 a7
          go_wp2_with (at_builtin; refine append_tn rfl (.tmp 44) (.tmp 47) rfl w.heap.size _ _ [str [45, 105]] _ 1 rfl rfl rfl hown _ rfl (by simp) (by omega) hbs ?_)
          intro v' w4 ho4 hp4
          rw [← HF.out] at ho4
          have HP4 := Lib.hid (HPb.out.app ho4 hp4)
          clear ho4 hp4 hown HPb
          go_wp2_with fail
          go_roundw
          case rel => exact ⟨4, by omega, by go_num, HP4.out⟩
          case measure => simp [intOf]
      · have hk4 : k = 4 := by omega
        rw [hk4] at hP
        clear hk4
        obtain ⟨fl, hfl⟩ : ∃ fl, flagsTo (flagL q e false true) 4 = fl := ⟨_, rfl⟩
        have HRR : Hid (printR ⟨q, e, true, true, parts, files⟩ = fl ++ parts.flatMap partW ++ [str [45, 45]] ++ files) := Lib.hid (by rw [← hfl]; exact HR.out)
        have hfn : fl.length ≤ 4 := by rw [← hfl]; exact flags_len _ _ _ _ _ (by omega)
        rw [hfl] at hP
        have HP := Lib.hid hP
        have c4 := hP.cell 4
        clear hP HR hfl
        go_wp2_with fail
        go_loopw [3, 53] (fun v jx wr => ∃ j : Nat, j ≤ np ∧ jx = .int .i64 j ∧ PO w wr bx #[.bool q, .bool e, .bool true, .bool true, .slice ap np cp, .slice af nf cf] v (fl ++ (parts.take j).flatMap partW)) (fun _ jx _ => np - (intOf jx).toNat)
        case atStart => exact ⟨0, Nat.zero_le _, rfl, by simpa using HP.out⟩
        case round =>
          clear HP c4
          obtain ⟨j, hj, rfl, hP⟩ := hrel
          by_cases hlt2 : j < np
          · obtain ⟨b, o, rfl, hc⟩ := (HSP.out.below hP.bel).read j hlt2
            obtain ⟨d1, d2⟩ := hc j hlt2
            have hst := take_snocS (false, ByteArray.empty) parts j (by rw [HPL.out]; exact hlt2)
            have hlen : (fl ++ (parts.take j).flatMap partW).length ≤ 4 + 2 * j := by
              rw [List.length_append]
              have := partW_len (parts.take j)
              have : (parts.take j).length ≤ j := List.length_take_le _ _
              omega
            generalize parts[j]?.getD (false, ByteArray.empty) = x at d1 d2 hst
            obtain ⟨x1, x2⟩ := x
            simp only at d1 d2
            obtain ⟨pre, hpre⟩ : ∃ pre, fl ++ (parts.take j).flatMap partW = pre := ⟨_, rfl⟩
            have HPRE := Lib.hid hpre
            rw [hpre] at hP hlen
            clear hpre
            have hb := (Below.refl wr.heap.size wr).alloc (Nat.le_refl _) (.cells #[.bool x1, .string x2] 66)
            have HPb := Lib.hid (hP.below hb)
            have hown := HPb.out.own
            have hbs := HPb.out.bel.size
            have HST := Lib.hid hst
            clear hP hb hc hst
            cases x1 with
            | true =>
              have HF : Hid (fl ++ (parts.take (j + 1)).flatMap partW = pre ++ [str [45, 102], x2]) := Lib.hid (by rw [← HPRE.out, HST.out, List.flatMap_append, List.append_assoc]; rfl)
              go_wp2_with (at_builtin; refine append_tn rfl (.tmp 59) (.tmp 62) rfl w.heap.size _ _ [str [45, 102], x2] _ 2 rfl rfl rfl hown _ rfl (by simp) (by omega) hbs ?_)
              intro v' w4 ho4 hp4
              rw [← HF.out] at ho4
              have HP4 := Lib.hid (HPb.out.app ho4 hp4)
              clear ho4 hp4 hown HPb d1 d2
              go_wp2_with fail
              go_roundw
              case rel => exact ⟨j + 1, by omega, by go_num, HP4.out⟩
              case measure => simp [intOf]; omega
            | false =>
              have HF : Hid (fl ++ (parts.take (j + 1)).flatMap partW = pre ++ [str [45, 101], x2]) := Lib.hid (by rw [← HPRE.out, HST.out, List.flatMap_append, List.append_assoc]; rfl)
              go_wp2_with (at_builtin; refine append_tn rfl (.tmp 64) (.tmp 67) rfl w.heap.size _ _ [str [45, 101], x2] _ 2 rfl rfl rfl hown _ rfl (by simp) (by omega) hbs ?_)
              intro v' w4 ho4 hp4
              rw [← HF.out] at ho4
              have HP4 := Lib.hid (HPb.out.app ho4 hp4)
              clear ho4 hp4 hown HPb d1 d2
              go_wp2_with fail
              go_roundw
              case rel => exact ⟨j + 1, by omega, by go_num, HP4.out⟩
              case measure => simp [intOf]; omega
          · have e : parts.take j = parts := List.take_of_length_le (by rw [HPL.out]; omega)
            rw [e] at hP
            have hlen : (fl ++ parts.flatMap partW).length ≤ 4 + 2 * np := by
              rw [List.length_append]
              have := partW_len parts
              have := HPL.out
              omega
            obtain ⟨pre, hpre⟩ : ∃ pre, fl ++ parts.flatMap partW = pre := ⟨_, rfl⟩
            rw [hpre] at hP hlen HRR
            have HP := Lib.hid hP
            have hown := hP.own
            have hbs := hP.bel.size
            clear hP e hpre
            go_wp2_with (at_builtin; refine append_tn rfl (.tmp 70) (.tmp 71) rfl w.heap.size _ _ [str [45, 45]] _ 1 rfl rfl rfl hown _ rfl rfl (by omega) hbs ?_)
            intro v' w4 ho4 hp4
            obtain ⟨pre2, hpre2⟩ : ∃ p, pre ++ [str [45, 45]] = p := ⟨_, rfl⟩
            have hlen2 : pre2.length ≤ 5 + 2 * np := by rw [← hpre2, List.length_append]; simp only [List.length_cons, List.length_nil]; omega
            rw [hpre2] at ho4 HRR
            have hP4 := HP.out.app ho4 hp4
            have c5 := hP4.cell 5
            have hown := hP4.own
            have hbs := hP4.bel.size
            have hts := HSF.out.below hP4.bel
            have HP4 := Lib.hid hP4
            clear ho4 hp4 HP hP4 hpre2
            go_wp2_with (at_builtin; refine append_ts rfl (.tmp 73) (.tmp 75) rfl w.heap.size _ _ files af nf cf rfl hown rfl hts (by omega) hbs ?_)
            intro v' w5 ho5 hp5
            obtain ⟨fin, hfin⟩ : ∃ p, pre2 ++ files = p := ⟨_, rfl⟩
            rw [hfin] at ho5 HRR
            clear hfin
            have HP5 := Lib.hid (HP4.out.app ho5 hp5)
            obtain ⟨av, cv, hv⟩ := own_shape ho5
            subst hv
            clear ho5 hp5 hown hts c5 HP4
            go_wp2_with fail
            go_ret
            rw [HRR.out]
            exact ⟨av, cv, rfl, HP5.out.own, HP5.out.bel⟩
end Go.Proofs.YtgepjjpcokbpjaaDoor
