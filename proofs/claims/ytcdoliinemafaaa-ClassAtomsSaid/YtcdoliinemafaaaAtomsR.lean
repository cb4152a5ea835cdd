/-
  galleyref01.alike, galleyref01.Atoms: the atoms by definition.
-/
import Derived.Test.YtcdoliinemafaaaWorks
import Derived.Test.YtcdoliinemafaaaPartsM
import Derived.Deep.RegionHeld3
import Derived.Deep.DeepCutAuto
namespace Go.Proofs.Ytcdoliinemafaaa
open Go.RowKit

/-- Has each class both bytes or neither? -/
def alikeL (cs : List Cl) (x y : Nat) : Bool := cs.all fun c => hasC c x == hasC c y
theorem alike_step (cs : List Cl) (x y k : Nat) (h : k < cs.length) (ht : alikeL (cs.take k) x y = true) (he : hasC cs[k] x = hasC cs[k] y) : alikeL (cs.take (k + 1)) x y = true := by
  unfold alikeL at *
  rw [List.take_succ_eq_append_getElem h, List.all_append, ht]
  simp [he]
theorem alike_no (cs : List Cl) (x y k : Nat) (h : k < cs.length) (he : hasC cs[k] x ≠ hasC cs[k] y) : alikeL cs x y = false := by
  unfold alikeL
  rw [List.all_eq_false]
  exact ⟨cs[k], List.getElem_mem h, by simpa using he⟩
/-- Four cells of a class. -/
structure KA (w W : World) (b o : Nat) (p0 p1 p2 p3 : Nat) : Prop where
  c0 : W.cell? ⟨b, o, none⟩ = some (.int .u64 (p0 : Int))
  c1 : W.cell? ⟨b, o + 1, none⟩ = some (.int .u64 (p1 : Int))
  c2 : W.cell? ⟨b, o + 2, none⟩ = some (.int .u64 (p2 : Int))
  c3 : W.cell? ⟨b, o + 3, none⟩ = some (.int .u64 (p3 : Int))
  bel : Below w.heap.size w W
theorem KA.below {w W W' : World} {b o p0 p1 p2 p3 : Nat} (h : KA w W b o p0 p1 p2 p3) (hb : Below W.heap.size W W') : KA w W' b o p0 p1 p2 p3 := by
  have k : ∀ {a v}, W.cell? a = some v → W'.cell? a = some v := fun {a v} ha => by rw [hb.cell (World.block_lt_of_cell? W _ ha)]; exact ha
  exact ⟨k h.c0, k h.c1, k h.c2, k h.c3, h.bel.trans (hb.mono h.bel.size)⟩

set_option maxHeartbeats 2000000 in
set_option maxRecDepth 100000 in
theorem alike_any (w : World) (v : Value) (cs : List Cl) (h : CC w v cs) (x y : Nat) (hx : x < 256) (hy : y < 256) (hlen : cs.length ≤ 4611686018427387904) :
    Calls Try.prog 39 #[v, .int .u8 (x : Int), .int .u8 (y : Int)] w fun e w' => e = .returned (.bool (alikeL cs x y)) ∧ Below w.heap.size w w' := by
  obtain ⟨a, cap, rfl, -⟩ := id h
  obtain ⟨n, hn⟩ : ∃ n, cs.length = n := ⟨_, rfl⟩
  have HN := Lib.hid hn
  rw [hn] at h hlen ⊢
  clear hn
  go_enter Try.func39, Try.ntmps39
  go_wp2_with fail
  go_loopw [7] (fun i wr => ∃ k : Nat, k ≤ n ∧ i = .int .i64 k ∧ Hid (alikeL (cs.take k) x y = true) ∧ Below w.heap.size w wr) (fun i _ => n - (intOf i).toNat)
  case atStart => exact ⟨0, Nat.zero_le _, rfl, Lib.hid rfl, Below.refl _ _⟩
  case round =>
    obtain ⟨k, hk, rfl, HT, ab⟩ := hrel
    by_cases hlt : k < n
    · have hkl : k < cs.length := by rw [HN.out]; exact hlt
      obtain ⟨b, o, rfl, hw⟩ := (h.below ab).words k hkl
      obtain ⟨p0, p1, p2, p3, hp⟩ := isC_words cs[k].1 cs[k].2
      obtain ⟨c0, c1, c2, c3⟩ := hw p0 p1 p2 p3 hp
      have h1 := fun W => refHas_any W cs[k].1 cs[k].2 x hx
      have h2 := fun W => refHas_any W cs[k].1 cs[k].2 y hy
      have hyes := alike_step cs x y k hkl HT.out
      have hno := alike_no cs x y k hkl
      have hrp : row64 cs[k].1 = #[.int .u64 (p0 : Int), .int .u64 (p1 : Int), .int .u64 (p2 : Int), .int .u64 (p3 : Int)] := by rw [hp]; rfl
      rw [hrp] at h1 h2
      have hK : KA w wr b (o + k * 4) p0 p1 p2 p3 := ⟨c0, c1, c2, c3, ab⟩
      have e1 : hasL cs[k].1 x = hasC cs[k] x := rfl
      have e2 : hasL cs[k].1 y = hasC cs[k] y := rfl
      rw [e1] at h1
      rw [e2] at h2
      generalize hasC cs[k] x = bx at h1 hyes hno
      generalize hasC cs[k] y = by' at h2 hyes hno
      have H1 := Lib.hid h1
      have H2 := Lib.hid h2
      have HY := Lib.hid hyes
      have HO := Lib.hid hno
      have hmI : (k : Int) < (n : Int) := by omega
      clear h1 h2 hyes hno hrp hw hp e1 e2 c0 c1 c2 c3 ab
      go_upto_region 4 with fail
      have hKd := hK.below (Below.refl _ _).drew
      have l0 := fun W (h : KA w W b (o + k * 4) p0 p1 p2 p3) => h.c0
      have l1 := fun W (h : KA w W b (o + k * 4) p0 p1 p2 p3) => h.c1
      have l2 := fun W (h : KA w W b (o + k * 4) p0 p1 p2 p3) => h.c2
      have l3 := fun W (h : KA w W b (o + k * 4) p0 p1 p2 p3) => h.c3
      go_region_held3 (fun w' => KA w w' b (o + k * 4) p0 p1 p2 p3)
        (first | exact hKd | assumption | exact KA.below (by assumption) (by assumption))
        (first | (go_at_call 12; (with_reducible refine (H1.out _).mono ?_); rintro e w' ⟨rfl, hb'⟩) | (go_at_call 12; (with_reducible refine (H2.out _).mono ?_); rintro e w' ⟨rfl, hb'⟩))
      rename_i hS
      have hB := hS.bel
      clear hS hKd hK l0 l1 l2 l3
      cases bx <;> cases by'
      · have HT2 := Lib.hid (HY.out rfl)
        clear HY HO H1 H2
        go_wp2_with fail
        go_roundw
        case rel => exact ⟨k + 1, hlt, by go_num, HT2, hB⟩
        case measure => simp [intOf]; omega
      · have HF := Lib.hid (HO.out (by decide))
        clear HY HO H1 H2
        go_wp2_with fail
        go_ret
        exact ⟨by rw [HF.out]; rfl, hB⟩
      · have HF := Lib.hid (HO.out (by decide))
        clear HY HO H1 H2
        go_wp2_with fail
        go_ret
        exact ⟨by rw [HF.out]; rfl, hB⟩
      · have HT2 := Lib.hid (HY.out rfl)
        clear HY HO H1 H2
        go_wp2_with fail
        go_roundw
        case rel => exact ⟨k + 1, hlt, by go_num, HT2, hB⟩
        case measure => simp [intOf]; omega
    · obtain rfl : k = n := by omega
      have hT := HT.out
      rw [← HN.out, List.take_length] at hT
      have HT3 := Lib.hid hT
      clear hT HT
      go_wp2_with fail
      go_ret
      exact ⟨by rw [HT3.out]; rfl, ab⟩

/-! ### The atoms, by definition -/
/-- The bytes below j that are alike to x. -/
def clsU (cs : List Cl) (x : Nat) : Nat → Cl
  | 0 => noneC
  | j + 1 => if alikeL cs x j = true then ⟨withL (clsU cs x j).1 j, isC_with _ j (clsU cs x j).2⟩ else clsU cs x j
theorem clsU_yes (cs : List Cl) (x j : Nat) (h : alikeL cs x j = true) : (clsU cs x (j + 1)).1 = withL (clsU cs x j).1 j := by rw [clsU, if_pos h]
theorem clsU_no (cs : List Cl) (x j : Nat) (h : alikeL cs x j = false) : clsU cs x (j + 1) = clsU cs x j := by rw [clsU, if_neg (by rw [h]; decide)]
theorem has_clsU (cs : List Cl) (x y : Nat) : ∀ j, j ≤ 256 → hasC (clsU cs x j) y = (decide (y < j) && alikeL cs x y) := by
  intro j
  induction j with
  | zero => intro _; rw [clsU, hasC_none]; simp
  | succ j ih =>
    intro hj
    have ih := ih (by omega)
    cases ha : alikeL cs x j with
    | false =>
      rw [clsU_no _ _ _ ha, ih]
      by_cases hy : y = j
      · subst hy; rw [ha]; simp
      · rw [show decide (y < j) = decide (y < j + 1) by simp; omega]
    | true =>
      have : hasC (clsU cs x (j + 1)) y = (hasC (clsU cs x j) y || decide (y = j)) := by
        unfold hasC; rw [clsU_yes _ _ _ ha]; exact has_with _ j y (clsU cs x j).2 (by omega)
      rw [this, ih]
      by_cases hy : y = j
      · subst hy; rw [ha]; simp
      · rw [show decide (y < j) = decide (y < j + 1) by simp; omega, decide_eq_false hy]; simp
/-- Is x the least byte below j that is alike to it? -/
def firstU (cs : List Cl) (x : Nat) : Nat → Bool
  | 0 => true
  | j + 1 => if alikeL cs x j = true then firstU cs x j && decide (x ≤ j) else firstU cs x j
theorem firstU_yes (cs : List Cl) (x j : Nat) (h : alikeL cs x j = true) : firstU cs x (j + 1) = (firstU cs x j && decide (x ≤ j)) := by rw [firstU, if_pos h]
theorem firstU_no (cs : List Cl) (x j : Nat) (h : alikeL cs x j = false) : firstU cs x (j + 1) = firstU cs x j := by rw [firstU, if_neg (by rw [h]; decide)]
theorem firstU_is (cs : List Cl) (x : Nat) : ∀ j, firstU cs x j = true ↔ ∀ y, y < j → alikeL cs x y = true → x ≤ y := by
  intro j
  induction j with
  | zero => simp [firstU]
  | succ j ih =>
    cases ha : alikeL cs x j with
    | false =>
      rw [firstU_no _ _ _ ha, ih]
      constructor
      · intro h y hy hb
        by_cases hyj : y = j
        · subst hyj; rw [ha] at hb; cases hb
        · exact h y (by omega) hb
      · intro h y hy hb; exact h y (by omega) hb
    | true =>
      rw [firstU_yes _ _ _ ha, Bool.and_eq_true, ih, decide_eq_true_eq]
      constructor
      · rintro ⟨h1, h2⟩ y hy hb
        by_cases hyj : y = j
        · subst hyj; exact h2
        · exact h1 y (by omega) hb
      · intro h; exact ⟨fun y hy hb => h y (by omega) hb, h j (by omega) ha⟩
def atomsU (cs : List Cl) (k : Nat) : List Cl := (List.range k).filterMap fun x => if firstU cs x 256 = true then some (clsU cs x 256) else none
theorem atomsU_yes (cs : List Cl) (k : Nat) (h : firstU cs k 256 = true) : atomsU cs (k + 1) = atomsU cs k ++ [clsU cs k 256] := by
  unfold atomsU; rw [List.range_succ, List.filterMap_append]; simp [h]
theorem atomsU_no (cs : List Cl) (k : Nat) (h : firstU cs k 256 = false) : atomsU cs (k + 1) = atomsU cs k := by
  unfold atomsU; rw [List.range_succ, List.filterMap_append]; simp [h]
theorem atomsU_len (cs : List Cl) (k : Nat) : (atomsU cs k).length ≤ k := Nat.le_trans (List.length_filterMap_le _ _) (by simp)

theorem heap_setRow_other (w : World) (b g : Nat) (cs : Array Value) (h : g ≠ b) : (w.setRow b cs).heap[g]? = w.heap[g]? := by
  simp [World.setRow, Array.getElem?_modify, Ne.symm h]
theorem OwnCs.kept {w w' : World} {base : Nat} {v : Value} {cs : List Cl} (h : OwnCs w base v cs) (hk : ∀ g, v.ownBlock = some g → w'.heap[g]? = w.heap[g]?) : OwnCs w' base v cs := by
  refine ⟨h.1, h.2.imp_right fun ⟨g, cap, cur, e, hg, hb, r⟩ => ⟨g, cap, cur, e, hg, ?_, r⟩⟩
  rw [hk g (by rw [e]; rfl)]; exact hb
theorem OwnCs.blk {w : World} {base : Nat} {v : Value} {cs : List Cl} (h : OwnCs w base v cs) {g : Nat} (hg : v.ownBlock = some g) : base ≤ g ∧ g < w.heap.size := World.ownsRow.lt h g hg
theorem OwnCs.shape {w : World} {base : Nat} {v : Value} {cs : List Cl} (h : OwnCs w base v cs) : ∃ a c, v = .slice a cs.length c := by
  rcases h.2 with ⟨rfl, hn⟩ | ⟨g, cap, cur, rfl, _⟩
  · exact ⟨none, 0, by rw [hn]⟩
  · exact ⟨_, cap, rfl⟩

def RefAtomsPost (w : World) (cs : List Cl) (e : Ending) (w' : World) : Prop := ∃ v, e = .returned v ∧ OwnCs w' w.heap.size v (atomsU cs 256) ∧ Below w.heap.size w w'

set_option maxHeartbeats 4000000 in
set_option maxRecDepth 100000 in
theorem refAtoms_any (w : World) (v : Value) (cs : List Cl) (h : CC w v cs) (hlen : cs.length ≤ 4611686018427387904) : Calls Try.prog 27 #[v] w (RefAtomsPost w cs) := by
  obtain ⟨a, cap, rfl, -⟩ := id h
  obtain ⟨n, hn⟩ : ∃ n, cs.length = n := ⟨_, rfl⟩
  have HAL := Lib.hid (fun (W : World) (hb : Below w.heap.size w W) (x y : Nat) (hx : x < 256) (hy : y < 256) => alike_any W _ cs (h.below hb) x y hx hy hlen)
  have HZ := Lib.hid (fun (c : Cl) => (show (Try.prog.info? 24).map (·.size) = some (row64 c.1).size by rw [row64_size, c.2.1]; exact infoC))
  rw [hn] at h HAL ⊢
  clear hlen
  go_enter Try.func27, Try.ntmps27
  go_wp2_with fail
  go_loopw [3, 4] (fun v3 i wr => ∃ k : Nat, k ≤ 256 ∧ i = .int .i64 k ∧ OwnCs wr w.heap.size v3 (atomsU cs k) ∧ Below w.heap.size w wr) (fun _ i _ => 256 - (intOf i).toNat)
  case atStart => exact ⟨0, Nat.zero_le _, rfl, World.ownsRow_nil _ _ _ _, Below.refl _ _⟩
  case round =>
    obtain ⟨k, hk, rfl, ho, ab⟩ := hrel
    by_cases hlt : k < 256
    · have hwk : IntKind.u8.wrap (k : Int) = (k : Int) := by rw [IntKind.wrap_u8]; omega
      have hb0 := (Below.refl wr.heap.size wr).alloc (Nat.le_refl _) (.cells #[.int .u64 0, .int .u64 0, .int .u64 0, .int .u64 0] 24)
      have hbox : Arr64 (wr.alloc (.cells #[.int .u64 0, .int .u64 0, .int .u64 0, .int .u64 0] 24)) wr.heap.size 24 (clsU cs k 0).1 := Arr64.new wr _ noneL
      have ab0 := ab.trans (hb0.mono ab.size)
      have hbs := ab.size
      obtain ⟨a3, c3, rfl⟩ := ho.shape
      go_upto_region 6 with fail
      generalize wr.alloc (.cells #[.int .u64 0, .int .u64 0, .int .u64 0, .int .u64 0] 24) = W0 at hb0 hbox ab0 ⊢
      generalize hb5 : wr.heap.size = b5 at hb0 hbox hbs ⊢
      have HB5 := Lib.hid hb5
      have HO := Lib.hid ho
      have HAB := Lib.hid ab
      have hkeep0 : ∀ g, g < b5 → W0.heap[g]? = wr.heap[g]? := fun g hg => hb0.block g hg
      have hsz0 : b5 ≤ W0.heap.size := by rw [← hb5]; exact hb0.size
      obtain ⟨wo, rfl⟩ : ∃ W, W = wr := ⟨_, rfl⟩
      generalize hL : (atomsU cs k).length = m at ⊢
      have HLm := Lib.hid hL
      clear hL hb0 hb5 ho ab
      have e9 : decide ((k : Int) < 256) = true := decide_eq_true (by omega)
      go_wp2_with fail
      rw [e9]
      go_loopw [6, 7] (fun v6 v7 wz => ∃ j : Nat, j ≤ 256 ∧ v7 = .int .i64 j ∧ v6 = .bool (firstU cs k j) ∧ Arr64 wz b5 24 (clsU cs k j).1 ∧ Hid (∀ g, g < b5 → wz.heap[g]? = wo.heap[g]?) ∧ Below w.heap.size w wz) (fun _ v7 _ => 256 - (intOf v7).toNat)
      case atStart => exact ⟨0, Nat.zero_le _, rfl, rfl, hbox, Lib.hid hkeep0, ab0⟩
      case round =>
        clear hbox hkeep0 ab0 hsz0
        obtain ⟨j, hj, rfl, rfl, hbox, HK, abz⟩ := hrel
        by_cases hlj : j < 256
        · have hwj : IntKind.u8.wrap (j : Int) = (j : Int) := by rw [IntKind.wrap_u8]; omega
          have hA := HAL.out wr abz k j hlt hlj
          have hC : IsC (clsU cs k j).1 := (clsU cs k j).2
          have hCN : IsC (clsU cs k (j + 1)).1 := (clsU cs k (j + 1)).2
          have hcy := clsU_yes cs k j
          have hcn := clsU_no cs k j
          have hfy := firstU_yes cs k j
          have hfn := firstU_no cs k j
          cases hal : alikeL cs k j with
          | false =>
            rw [hal] at hA
            have HCN := Lib.hid (hcn hal)
            have HFN := Lib.hid (hfn hal)
            have HA := Lib.hid hA
            clear hcy hcn hfy hfn hA hC hCN
            go_wp2_with fail
            refine HA.out.mono ?_
            rintro e w3 ⟨rfl, hb3⟩
            have hbox3 := hbox.below hb3 hbox.lt
            have HK3 := Lib.hid (fun g (hg : g < b5) => (hb3.block g (Nat.lt_trans hg hbox.lt)).trans (HK.out g hg))
            have ab3 := abz.trans (hb3.mono abz.size)
            clear hb3 hbox abz HA HK
            go_wp2_with fail
            go_roundw
            case rel =>
              refine ⟨j + 1, hlj, ?_, ?_, ?_, HK3, ab3⟩
              · go_num
              · rw [HFN.out]
              · rw [HCN.out]; exact hbox3
            case measure => simp [intOf]; omega
          | true =>
            rw [hal] at hA
            have hcy := hcy hal
            have hfy := hfy hal
            rw [hcy] at hCN
            have HCY := Lib.hid hcy
            have HFY := Lib.hid hfy
            have HA := Lib.hid hA
            have HC := Lib.hid hC
            have HCN := Lib.hid hCN
            have HZC := Lib.hid (HZ.out (clsU cs k j))
            clear hcy hcn hfy hfn hA hC hCN
            generalize (clsU cs k j).1 = acc at hbox HCY HC HCN HZC
            generalize firstU cs k j = ff at HFY ⊢
            go_wp2_with fail
            refine HA.out.mono ?_
            rintro e w3 ⟨rfl, hb3⟩
            have hbox3 := hbox.below hb3 hbox.lt
            have HK3 := Lib.hid (fun g (hg : g < b5) => (hb3.block g (Nat.lt_trans hg hbox.lt)).trans (HK.out g hg))
            have ab3 := abz.trans (hb3.mono abz.size)
            clear hb3 hbox abz HA HK
            go_wp2_with (refine wpList_load_row rfl 24 _ rfl b5 rfl 24 _ (0, 0) _ hbox3 Try.underlying24 rfl HZC.out ?_)
            refine (with_any _ acc HC.out j hlj).mono ?_
            rintro e w4 ⟨rfl, hb4⟩
            have hbox4 := hbox3.below hb4 hbox3.lt
            have HK4 := Lib.hid (fun g (hg : g < b5) => (hb4.block g (Nat.lt_trans hg hbox3.lt)).trans (HK3.out g hg))
            have ab4 := ab3.trans (hb4.mono ab3.size)
            clear hb4 hbox3 ab3 HK3
            have HE := Lib.hid (show Arr64 (w4.setRow b5 (row64 (withL acc j))) b5 24 (withL acc j) from setRow_heap _ _ _ _ _ _ hbox4)
            have HK5 := Lib.hid (fun g (hg : g < b5) => (show (w4.setRow b5 (row64 (withL acc j))).heap[g]? = wo.heap[g]? by rw [heap_setRow_other _ _ _ _ (Nat.ne_of_lt hg)]; exact HK4.out g hg))
            have HB5' := Lib.hid (below_setRowC ab4 hbs (row64 (withL acc j)))
            cases ff with
            | false =>
              go_wp2_with (refine wpList_store_cells rfl 24 _ _ rfl rfl b5 24 _ _ rfl rfl hbox4 (by rw [row64_size, row64_size, HC.out.1, HCN.out.1]) (by rw [row64_size, HCN.out.1]; exact infoC) (row64_one _) ?_)
              go_roundw
              case rel =>
                refine ⟨j + 1, hlj, ?_, ?_, ?_, HK5, HB5'.out⟩
                · go_num
                · first | (rw [HFY.out]; rfl) | rw [HFY.out]
                · rw [HCY.out]; exact HE.out
              case measure => simp [intOf]; omega
            | true =>
              go_wp2_with (refine wpList_store_cells rfl 24 _ _ rfl rfl b5 24 _ _ rfl rfl hbox4 (by rw [row64_size, row64_size, HC.out.1, HCN.out.1]) (by rw [row64_size, HCN.out.1]; exact infoC) (row64_one _) ?_)
              go_roundw
              case rel =>
                refine ⟨j + 1, hlj, ?_, ?_, ?_, HK5, HB5'.out⟩
                · go_num
                · first | (rw [HFY.out, Bool.true_and]; rfl) | rw [HFY.out, Bool.true_and]
                · rw [HCY.out]; exact HE.out
              case measure => simp [intOf]; omega
        · obtain rfl : j = 256 := by omega
          have hO : OwnCs wr w.heap.size (.slice a3 m c3) (atomsU cs k) := by
            have h0 := HO.out
            rw [HLm.out] at h0
            refine h0.kept fun g hg => HK.out g ?_
            have := (h0.blk hg).2
            rw [HB5.out] at this
            exact this
          have hmk : m ≤ k := by rw [← HLm.out]; exact atomsU_len cs k
          have hay := atomsU_yes cs k
          have han := atomsU_no cs k
          clear HK HO HLm
          cases hf : firstU cs k 256 with
          | false =>
            have HN := Lib.hid (han hf)
            clear hay han hbox
            go_wp2_with fail
            go_roundw
            case rel => exact ⟨k + 1, hlt, by go_num, by rw [HN.out]; exact hO, abz⟩
            case measure => simp [intOf]; omega
          | true =>
            have HN := Lib.hid (hay hf)
            clear hay han
            obtain ⟨p0, p1, p2, p3, hp⟩ := isC_words (clsU cs k 256).1 (clsU cs k 256).2
            obtain ⟨z0, z1, z2, z3⟩ := hbox.four hp
            have HC1 := Lib.hid (show #[Value.int .u64 (p0 : Int), .int .u64 (p1 : Int), .int .u64 (p2 : Int), .int .u64 (p3 : Int)] = (cellsC [clsU cs k 256]).toArray by unfold cellsC; rw [List.flatMap_cons, cells_of _ hp]; rfl)
            have hlm : (atomsU cs k).length ≤ 256 := by have := atomsU_len cs k; omega
            have hbz := abz.size
            clear hp hbox
            go_wp2_with (at_builtin; refine append_cs rfl (.tmp 34) (.tmp 36) rfl w.heap.size _ (atomsU cs k) [clsU cs k 256] 1 rfl _ HC1.out rfl hO rfl (by omega) hbz ?_)
            intro v' w9 ho9 hA9
            have rb9 := hA9.bel _ _ abz (Nat.le_refl _)
            rw [← HN.out] at ho9
            have HO9 := Lib.hid ho9
            clear ho9 hA9 hO abz z0 z1 z2 z3
            go_wp2_with fail
            go_roundw
            case rel => exact ⟨k + 1, hlt, by go_num, HO9.out, rb9⟩
            case measure => simp [intOf]; omega
    · obtain rfl : k = 256 := by omega
      go_wp2_with fail
      go_ret
      exact ⟨_, rfl, ho, ab⟩
end Go.Proofs.Ytcdoliinemafaaa
