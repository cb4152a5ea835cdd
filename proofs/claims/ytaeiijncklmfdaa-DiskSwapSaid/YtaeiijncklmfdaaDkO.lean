/-
  Layer 3: the calls that write: Make, Append, Sync, Rename, Remove, SyncDir.
-/
import Derived.Test.YtaeiijncklmfdaaDkF
namespace Go.Proofs.Ytaeiijncklmfdaa
open Go.RowKit

def Dk (w : World) (base d : Nat) (s : DkS) (c : Nat → Nat) : Prop := ∃ fo du pe pl bv, DkAt w base d s c fo du pe pl bv
def DkR (w : World) (base d : Nat) (c : Nat → Nat) (M : Int × DkS) (e : Ending) (w' : World) : Prop := e = .returned (.int .i64 M.1) ∧ ∃ c', Dk w' base d M.2 c' ∧ Stp w w' base c c'
theorem Dk.below {w w' : World} {base d : Nat} {s : DkS} {c : Nat → Nat} (h : Dk w base d s c) (hb : Below w.heap.size w w') : Dk w' base d s c := by
  obtain ⟨fo, du, pe, pl, bv, h⟩ := h
  exact ⟨fo, du, pe, pl, bv, h.below hb⟩
def updF (f : Nat → FileS) (q : Nat) (x : FileS) (p : Nat) : FileS := if p = q then x else f p
def addM (s : DkS) (q : Nat) : DkS := { s with ps := q :: s.ps, file := updF s.file q ⟨[], 0, false⟩ }
def makeM (q : Nat) (s : DkS) (k : ByteArray) : Int × DkS :=
  if admitM s [k] ≠ 0 then (admitM s [k], s) else
  if (tryM s).1 ≠ 0 then tryM s else
  if getK (tryM s).2.folder k = none ∧ 64 ≤ (tryM s).2.folder.length then (22, (tryM s).2) else
  (0, changeM (addM (tryM s).2 q) ⟨ByteArray.empty, k, some q⟩)
theorem addFile {w : World} {base d : Nat} {s : DkS} {c : Nat → Nat} {fo du : Nat} {pe pl : Value} {bv : Nat → Value} (h : DkAt w base d s c fo du pe pl bv) :
    ∃ c' bv', DkAt (w.alloc (.cells #[.slice none 0 0, .int .i64 0, .bool false] 100)) base d (addM s w.heap.size) c' fo du pe pl bv' ∧ Stp w (w.alloc (.cells #[.slice none 0 0, .int .i64 0, .bool false] 100)) base c c' ∧ w.heap.size ∉ s.ps := by
  have hq : ∀ p ∈ s.ps, p ≠ w.heap.size := fun p hp e => by have := h.plt hp; omega
  have hk : ∀ k, k < w.heap.size → (w.alloc (.cells #[.slice none 0 0, .int .i64 0, .bool false] 100)).heap[k]? = w.heap[k]? := fun k hk => heap_alloc_old w _ hk
  have hc : ∀ k, c k ≠ 0 → k ≠ w.heap.size := fun k h0 e => by have := h.col h0; omega
  have hsz : (w.alloc (.cells #[.slice none 0 0, .int .i64 0, .bool false] 100)).heap.size = w.heap.size + 1 := by simp
  let c' : Nat → Nat := fun k => if k = w.heap.size then 6 else c k
  have ho : ∀ k, k ≠ w.heap.size → c' k = c k := fun k e => if_neg e
  have hcc : ∀ k, c k ≠ 0 → c' k = c k := fun k e => ho k (hc k e)
  let bv' : Nat → Value := fun p => if p = w.heap.size then .slice none 0 0 else bv p
  have hbv : ∀ p ∈ s.ps, bv' p = bv p := fun p hp => if_neg (hq p hp)
  have hfl : ∀ p ∈ s.ps, (addM s w.heap.size).file p = s.file p := fun p hp => if_neg (hq p hp)
  have hnf : (addM s w.heap.size).file w.heap.size = ⟨[], 0, false⟩ := if_pos rfl
  have hnb : bv' w.heap.size = .slice none 0 0 := if_pos rfl
  refine ⟨c', bv', ?_, ⟨fun k hlt _ => hk k hlt, fun k hlt => ho k (by omega), (((Below.refl _ w).alloc (Nat.le_refl _) _).mono h.base_le), h.base_le⟩, fun hm => hq _ hm rfl⟩
  exact {
    disk := (hk d h.dlt).trans h.disk
    cd := (hcc d (by rw [h.cd]; decide)).trans h.cd
    fold := h.fold.keep (hk fo h.fold.lt)
    cf := (hcc fo (by rw [h.cf]; decide)).trans h.cf
    dur := h.dur.keep (hk du h.dur.lt)
    cu := (hcc du (by rw [h.cu]; decide)).trans h.cu
    pend := own_blk h.pend fun k e => hk k (World.ownsRow.lt h.pend k e).2
    cp := fun k e => (hcc k (by rw [h.cp k e]; decide)).trans (h.cp k e)
    plan := h.plan.keep (by rw [hsz]; omega) fun g hg hlt => ⟨hk g hlt, (hcc g (by rw [hg]; decide)).trans hg⟩
    file := fun p hp => by
      rcases List.mem_cons.1 hp with rfl | hp
      · rw [hnf, hnb]
        exact ⟨heap_alloc_new w _, if_pos rfl⟩
      · rw [hfl p hp, hbv p hp]
        exact ⟨(hk p (h.plt hp)).trans (h.file p hp).1, (hcc p (by rw [(h.file p hp).2]; decide)).trans (h.file p hp).2⟩
    byt := fun p hp => by
      rcases List.mem_cons.1 hp with rfl | hp
      · rw [hnf, hnb]
        exact ⟨OwnB.nil _ _, isB_nil, by simp⟩
      · rw [hfl p hp, hbv p hp]
        exact ⟨own_blk (h.byt p hp).1 fun k e => hk k (World.ownsRow.lt (h.byt p hp).1 k e).2, (h.byt p hp).2⟩
    cb := fun p hp k e => by
      rcases List.mem_cons.1 hp with rfl | hp
      · rw [hnb] at e; cases e
      · rw [hbv p hp] at e
        exact (hcc k (by rw [h.cb p hp k e]; omega)).trans (h.cb p hp k e)
    fin := fun x hx => List.mem_cons_of_mem _ (h.fin x hx)
    din := fun x hx => List.mem_cons_of_mem _ (h.din x hx)
    pin := fun x hx p hp => List.mem_cons_of_mem _ (h.pin x hx p hp)
    high := fun b hb => by
      rw [hsz] at hb
      exact (ho b (by omega)).trans (h.high b (by omega))
    low := fun b hb => by
      by_cases e : b = w.heap.size
      · rw [e]; exact h.base_le
      · rw [ho b e] at hb; exact h.low b hb
    base_le := by rw [hsz]; have := h.base_le; omega }
theorem lenMap (w : World) (g : Nat) (L : List (ByteArray × Nat)) (h : MapAt w g L) (ty : TypeId) : (Builtin.len_ #[66] ty #[.map (some g)]).run Try.prog w = .ok (.int .i64 L.length) w := by
  obtain ⟨es, clock, hg, -, he⟩ := h
  have : es.size = L.length := by
    have := congrArg List.length he
    simpa using this
  simp [Builtin.len_, run_underlying udM, MapKept.run_getObj_map hg, Result.andThen, this]
  rfl
theorem tryM_keep (s : DkS) : (tryM s).2.folder = s.folder ∧ (tryM s).2.durable = s.durable ∧ (tryM s).2.pending = s.pending ∧ (tryM s).2.file = s.file ∧ (tryM s).2.ps = s.ps ∧ (tryM s).2.done = s.done ∧ (tryM s).2.room = s.room := by
  unfold tryM
  split
  · exact ⟨rfl, rfl, rfl, rfl, rfl, rfl, rfl⟩
  · split <;> exact ⟨rfl, rfl, rfl, rfl, rfl, rfl, rfl⟩
theorem made_t1 (w : World) (base : Nat) (k : ByteArray) (hb : base ≤ w.heap.size) : OwnT (w.alloc (.cells #[.string k] 9)) base (.slice (some ⟨w.heap.size, 0, none⟩) 1 1) [k] :=
  World.ownsRow_lit w #[.string k] 1 hb (by decide) rfl
section
variable {w : World} {base d : Nat} {s : DkS} {c : Nat → Nat}
def MkPost (w : World) (base d : Nat) (s : DkS) (c : Nat → Nat) (k : ByteArray) (e : Ending) (w' : World) : Prop := ∃ q, q ∉ s.ps ∧ DkR w base d c (makeM q s k) e w'
set_option maxRecDepth 100000 in
set_option maxHeartbeats 1000000 in
theorem make_yes (h0 : Dk w base d s c) (k : ByteArray) (hn : IsNm k) (hlen : s.pending.length ≤ 1000000000000) :
    Calls Try.prog 31 #[ptD d, .string k] w (MkPost w base d s c k) := by
  obtain ⟨fo, du, pe, pl, bv, h⟩ := h0
  have hA := (Below.refl w.heap.size w).alloc (Nat.le_refl _) (.cells #[.string k] 9)
  have h1 := h.below hA
  have s1 := Stp.below c hA h.base_le
  have had := admit_yes _ h1 _ [k] ((made_t1 w w.heap.size k (Nat.le_refl _)).ts (by simp)) (fun x hx => by rw [List.mem_singleton.1 hx]; exact hn)
  have hw0 : w.heap.size ∉ s.ps := fun hm => Nat.lt_irrefl _ (h.plt hm)
  obtain ⟨E, hE⟩ : ∃ E, admitM s [k] = E := ⟨_, rfl⟩
  obtain ⟨T, hT⟩ : ∃ T, (tryM s).1 = T := ⟨_, rfl⟩
  rw [hE] at had
  have R1 : E ≠ 0 → ∀ w', Dk w' base d s c → Stp w w' base c c → MkPost w base d s c k (.returned (.int .i64 E)) w' := fun he w' hd hs => ⟨w.heap.size, hw0, by
    have : makeM w.heap.size s k = (E, s) := by unfold makeM; rw [hE, if_pos he]
    rw [this]; exact ⟨rfl, c, hd, hs⟩⟩
  have R2 : E = 0 → T ≠ 0 → ∀ w', Dk w' base d (tryM s).2 c → Stp w w' base c c → MkPost w base d s c k (.returned (.int .i64 T)) w' := fun he ht w' hd hs => ⟨w.heap.size, hw0, by
    have : makeM w.heap.size s k = (T, (tryM s).2) := by unfold makeM; rw [hE, if_neg (by simp [he]), hT, if_pos ht, ← hT]
    rw [this]; exact ⟨rfl, c, hd, hs⟩⟩
  have R3 : E = 0 → T = 0 → getK (tryM s).2.folder k = none → 64 ≤ (tryM s).2.folder.length → ∀ w', Dk w' base d (tryM s).2 c → Stp w w' base c c → MkPost w base d s c k (.returned (.int .i64 22)) w' := fun he ht h3 h4 w' hd hs => ⟨w.heap.size, hw0, by
    have : makeM w.heap.size s k = (22, (tryM s).2) := by unfold makeM; rw [hE, if_neg (by simp [he]), hT, if_neg (by simp [ht]), if_pos ⟨h3, h4⟩]
    rw [this]; exact ⟨rfl, c, hd, hs⟩⟩
  have R4 : E = 0 → T = 0 → ¬ (getK (tryM s).2.folder k = none ∧ 64 ≤ (tryM s).2.folder.length) → ∀ q, q ∉ s.ps → ∀ c' w', Dk w' base d (changeM (addM (tryM s).2 q) ⟨ByteArray.empty, k, some q⟩) c' → Stp w w' base c c' → MkPost w base d s c k (.returned (.int .i64 0)) w' := fun he ht h3 q hq c' w' hd hs => ⟨q, hq, by
    have : makeM q s k = (0, changeM (addM (tryM s).2 q) ⟨ByteArray.empty, k, some q⟩) := by unfold makeM; rw [hE, if_neg (by simp [he]), hT, if_neg (by simp [ht]), if_neg h3]
    rw [this]; exact ⟨rfl, c', hd, hs⟩⟩
  have hps := (tryM_keep s).2.2.2.2.1
  have hpd := (tryM_keep s).2.2.1
  have HR1 := Lib.hid R1
  have HR2 := Lib.hid R2
  have HR3 := Lib.hid R3
  have HR4 := Lib.hid R4
  have HTE := Lib.hid hT
  clear R1 R2 R3 R4 hE hT h hn
  unfold ptD at had ⊢
  have HAD := Lib.hid had
  clear had
  go_enter Try.func31, Try.ntmps31
  go_wp2_with fail
  refine HAD.out.mono ?_
  rintro e w2 ⟨rfl, hb⟩
  have h2 := h1.below hb
  have s2 := s1.trans (Stp.below c hb h1.base_le)
  have HH2 := Lib.hid h2
  have HS2 := Lib.hid s2
  clear h1 s1 hA hb HAD h2 s2
  by_cases he : E = 0
  · have hd0 : (E != 0) = false := by simp [he]
    have HE := Lib.hid he
    have HT := Lib.hid (try_yes w2 HH2.out)
    unfold ptD at HT
    go_wp2_with fail
    refine HT.out.mono ?_
    rintro e w3 ⟨he3, pl3, h3, s3⟩
    rw [HTE.out] at he3
    subst he3
    have HH3 := Lib.hid h3
    have HS3 := Lib.hid (HS2.out.trans s3)
    by_cases ht : T = 0
    · have ht0 : (T != 0) = false := by simp [ht]
      have HTT := Lib.hid ht
      obtain ⟨-, -, c2, -⟩ := h3.cell
      have hlk := lookupK_run w3 fo _ h3.fold k
      have hln := fun ty => lenMap w3 fo _ h3.fold ty
      clear ht s3 he HH2 HS2 HT
      obtain ⟨c4, bv4, h4, s4, hq4⟩ := addFile h3
      rw [hps] at hq4
      have hcg := change_any h4 ⟨ByteArray.empty, k, some w3.heap.size⟩ (fun _ e => by cases e) (fun p hp => by cases hp; exact List.mem_cons_self) (by show (tryM s).2.pending.length ≤ _; rw [hpd]; exact hlen)
      unfold ptD chV ptV at hcg
      have HCG := Lib.hid hcg
      have HQ4 := Lib.hid hq4
      have HS4 := Lib.hid (HS3.out.trans s4)
      clear hcg hq4 s4 h4
      clear h3
      have hns : ∀ (b : Bool) (n : Int) (v : Value), getK (tryM s).2.folder k = none ∧ 64 ≤ (tryM s).2.folder.length ∨ ¬ (getK (tryM s).2.folder k = none ∧ 64 ≤ (tryM s).2.folder.length) := fun _ _ _ => Classical.em _
      obtain ⟨n, hnn⟩ : ∃ n, (tryM s).2.folder.length = n := ⟨_, rfl⟩
      rw [hnn] at hln
      have HN := Lib.hid hnn
      clear hns hnn
      cases hg : getK (tryM s).2.folder k with
      | none =>
        rw [hg] at hlk
        unfold ptV at hlk
        have heq := eqPtN w3
        have HG := Lib.hid hg
        clear hg
        by_cases h64 : 64 ≤ n
        · have hd64 : decide ((64 : Int) ≤ (n : Int)) = true := by simp; omega
          go_wp2_with fail
          go_ret
          exact HR3.out HE.out HTT.out HG.out (by rw [HN.out]; exact h64) _ ⟨_, _, _, _, _, HH3.out⟩ HS3.out
        · have hd64 : decide ((64 : Int) ≤ (n : Int)) = false := by simp; omega
          have H64 := Lib.hid h64
          clear h64
          go_wp2_with fail
          refine HCG.out.mono ?_
          rintro e w5 ⟨rfl, c5, pe5, pl5, bv5, h5, s5⟩
          have HD5 := Lib.hid (show Dk w5 base d _ c5 from ⟨_, _, _, _, _, h5⟩)
          have HS5 := Lib.hid (HS4.out.trans s5)
          clear h5 s5 HCG
          go_wp2_with fail
          go_ret
          exact HR4.out HE.out HTT.out (fun e => H64.out (by rw [← HN.out]; exact e.2)) _ HQ4.out _ _ HD5.out HS5.out
      | some p =>
        rw [hg] at hlk
        unfold ptV at hlk
        have heq := eqPtF p w3
        have HG := Lib.hid hg
        clear hg
        go_wp2_with fail
        refine HCG.out.mono ?_
        rintro e w5 ⟨rfl, c5, pe5, pl5, bv5, h5, s5⟩
        have HD5 := Lib.hid (show Dk w5 base d _ c5 from ⟨_, _, _, _, _, h5⟩)
        have HS5 := Lib.hid (HS4.out.trans s5)
        clear h5 s5 HCG
        go_wp2_with fail
        go_ret
        exact HR4.out HE.out HTT.out (fun e => by have := e.1; rw [HG.out] at this; cases this) _ HQ4.out _ _ HD5.out HS5.out
    · have ht0 : (T != 0) = true := by simpa using ht
      have HTN := Lib.hid ht
      clear ht h3 s3 he HH2 HS2 HT
      go_wp2_with fail
      go_ret
      exact HR2.out HE.out HTN.out _ ⟨_, _, _, _, _, HH3.out⟩ HS3.out
  · have hd0 : (E != 0) = true := by simpa using he
    have HE := Lib.hid he
    clear he
    go_wp2_with fail
    go_ret
    exact HR1.out HE.out _ ⟨_, _, _, _, _, HH2.out⟩ HS2.out
end
end Go.Proofs.Ytaeiijncklmfdaa
