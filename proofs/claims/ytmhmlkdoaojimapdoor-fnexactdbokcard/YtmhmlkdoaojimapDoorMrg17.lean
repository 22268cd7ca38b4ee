/- Four texts in one. -/
import Derived.Test.YtmhmlkdoaojimapDoorMrg16
import Derived.Test.YtmhmlkdoaojimapDoorMrg8
import Derived.Test.YtmhmlkdoaojimapDoorMrg6
import Derived.ProofKit
import Derived.Deep.RegionWith
import Derived.Test.YtmhmlkdoaojimapDoorMrg1
import Derived.Test.YtmhmlkdoaojimapDoorMrg3
import Derived.StillTail
import Derived.Deep.QuietTactic
/- Is a term right: the code's walk, which counts down how many terms are left. -/
namespace Go.Proofs.YtmhmlkdoaojimapDoor
open Go.RowKit

/-- the block g holds the number l -/
structure LeftAt (w : World) (g l : Nat) : Prop where
  lt : g < w.heap.size
  c : w.cell? ⟨g, 0, none⟩ = some (.int .i64 (l : Int))
  fz : w.frozen? ⟨g, 0, none⟩ = false

/-- nothing that was there has turned, but block g -/
structure Bar (g : Nat) (w w' : World) : Prop where
  os : w'.os = w.os
  tape : w'.tape = w.tape
  output : w'.output = w.output
  size : w.heap.size ≤ w'.heap.size
  block : ∀ k, k < w.heap.size → k ≠ g → w'.heap[k]? = w.heap[k]?
theorem Bar.refl (g : Nat) (w : World) : Bar g w w := ⟨rfl, rfl, rfl, Nat.le_refl _, fun _ _ _ => rfl⟩
theorem Bar.of_below {g : Nat} {w w' : World} (h : Below w.heap.size w w') : Bar g w w' := ⟨h.os, h.tape, h.output, h.size, fun k hk _ => h.block k hk⟩
theorem Bar.set (g k : Nat) (w : World) (v : Value) : Bar g w (w.setCell ⟨g, k, none⟩ v) :=
  ⟨rfl, rfl, rfl, by simp [World.setCell], fun j _ hne => by
    have : g ≠ j := fun h => hne h.symm
    simp [World.setCell, Array.getElem?_modify, this]⟩
theorem Bar.trans {g : Nat} {w w' w'' : World} (h : Bar g w w') (h' : Bar g w' w'') : Bar g w w'' :=
  ⟨h'.os.trans h.os, h'.tape.trans h.tape, h'.output.trans h.output, Nat.le_trans h.size h'.size, fun k hk hne => (h'.block k (Nat.lt_of_lt_of_le hk h.size) hne).trans (h.block k hk hne)⟩
theorem Bar.below {g B : Nat} {w w' : World} (h : Bar g w w') (hB : B ≤ g) (hw : B ≤ w.heap.size) : Below B w w' :=
  ⟨h.os, h.tape, h.output, h.size, fun k hk => h.block k (by omega) (by omega)⟩
theorem LeftAt.keep {w w' : World} {g l : Nat} (h : LeftAt w g l) (hb : Below w.heap.size w w') : LeftAt w' g l :=
  ⟨Nat.lt_of_lt_of_le h.lt hb.size, by rw [World.cell?_of_block (hb.block g h.lt)]; exact h.c, by rw [World.frozen?_of_block (hb.block g h.lt)]; exact h.fz⟩
theorem LeftAt.set {w : World} {g l : Nat} (h : LeftAt w g l) (l' : Nat) : LeftAt (w.setCell ⟨g, 0, none⟩ (.int .i64 (l' : Int))) g l' :=
  ⟨by simpa [World.setCell] using h.lt, World.cell?_setCell_same _ _ _ h.c, by rw [World.frozen?_setCell]; exact h.fz⟩

def RwPost (w : World) (g left : Nat) (r : Bool) (many : Nat) (e : Ending) (w' : World) : Prop :=
  ∃ left', e = .returned (.bool r) ∧ Bar g w w' ∧ LeftAt w' g left' ∧ left' ≤ left ∧ (r = true → left' + many = left)

def RwOk (t : Tm) : Prop := ∀ (w0 w : World) (v : Value) (deep left g : Nat), TmIn w0 t v → Below w0.heap.size w0 w → w0.heap.size ≤ g → LeftAt w g left → deep ≤ 40 → left ≤ 400 →
  Calls Tryd.prog 74 #[v, .int .i64 (deep : Int), .pointer (some ⟨g, 0, none⟩)] w (RwPost w g left (t.right (41 - deep) && decide (t.n ≤ left)) t.n)

def AllRw (ks : List Tm) : Prop := ∀ (w0 w : World) (ao : Option Addr) (cap : Nat) (deep left g : Nat), (ks ≠ [] → ∃ b off, ao = some ⟨b, off, none⟩ ∧ TmsIn w0 ks b off) → ks.length ≤ cap → cap ≤ maxLen → Below w0.heap.size w0 w → w0.heap.size ≤ g → LeftAt w g left → deep ≤ 40 → left ≤ 400 →
  Calls Tryd.prog 93 #[.slice ao ks.length cap, .int .i64 (deep : Int), .pointer (some ⟨g, 0, none⟩)] w (RwPost w g left (rights ks (41 - deep) && decide (ns ks ≤ left)) (ns ks))

set_option maxHeartbeats 4000000 in
theorem all_right (ks : List Tm) (hks : ∀ t ∈ ks, RwOk t) : AllRw ks := by
  intro w0 w ao cap deep left g hrow hlen hcap hb0 hg hl hd hle
  unfold maxLen at hcap
  have HKS : Hid _ := hks
  have HR : Hid _ := hrow
  have HL : Hid _ := hl
  have HB0 : Hid _ := hb0
  clear hks hrow hl hb0
  go_enter Tryd.func93, Tryd.ntmps93
  go_wp2
  go_loopw [11] (fun vi wr => Hid (Bar g w wr) ∧ ∃ j l : Nat, j ≤ ks.length ∧ vi = .int .i64 (j : Int) ∧ Hid (LeftAt wr g l) ∧ Hid (rights (ks.take j) (41 - deep) = true) ∧ Hid (l + ns (ks.take j) = left)) (fun i _ => ks.length - (intOf i).toNat)
  case atStart => exact ⟨Bar.refl _ _, 0, left, by omega, rfl, HL.out, by show _ = _; simp [rights_all], by show _ = _; simp [ns, Tm.n.ns]⟩
  case round =>
    obtain ⟨HB, j, l, hj, rfl, HLA, HRT, HN⟩ := hrel
    by_cases hlt : j < ks.length
    · obtain ⟨b, off, rfl, hin⟩ := HR.out (by intro e; subst e; simp at hlt)
      have hbw : Below w0.heap.size w0 wr := HB0.out.trans (HB.out.below hg HB0.out.size)
      obtain ⟨c0, c1, c2, c3, h0, h1, h2, h3, ht⟩ := hin.at j hlt
      obtain ⟨k1, s1, n1, ao1, len1, cap1, he⟩ := tm_shape ht
      obtain ⟨rfl, rfl, rfl, rfl⟩ : c0 = .int .i64 k1 ∧ c1 = .string s1 ∧ c2 = .int .i64 n1 ∧ c3 = .slice ao1 len1 cap1 := by simpa using he
      clear he
      have hbl : b < w0.heap.size := cell_blk h0
      replace h0 := cell_keep h0 hbw
      replace h1 := cell_keep h1 hbw
      replace h2 := cell_keep h2 hbw
      replace h3 := cell_keep h3 hbw
      have HC : Hid (∀ w2, Below wr.heap.size wr w2 → Calls Tryd.prog 74 #[.agg #[.int .i64 k1, .string s1, .int .i64 n1, .slice ao1 len1 cap1], .int .i64 (deep : Int), .pointer (some ⟨g, 0, none⟩)] w2 (RwPost w2 g l (ks[j].right (41 - deep) && decide (ks[j].n ≤ l)) ks[j].n)) := fun w2 hb2 =>
        HKS.out ks[j] (List.getElem_mem hlt) w0 w2 _ deep l g ht (hbw.trans (hb2.mono hbw.size)) hg (HLA.out.keep hb2) hd (by have := HN.out; omega)
      clear hin ht hbw HR HKS
      have HW : Hid (ns (ks.take (j + 1)) = ns (ks.take j) + ks[j].n) := by
        show _ = _
        rw [List.take_succ_eq_append_getElem hlt, ns_append]; simp [ns, Tm.n.ns]
      cases hR : (ks[j].right (41 - deep) && decide (ks[j].n ≤ l)) with
      | true =>
        rw [hR] at HC
        rw [Bool.and_eq_true, decide_eq_true_iff] at hR
        have HRT' : Hid (rights (ks.take (j + 1)) (41 - deep) = true) := rights_take hlt HRT.out hR.1
        clear HRT hR HL
        go_wp2_with (go_at_call 74; refine (Calls.mono (HC.out _ ((Below.refl _ _).alloc (Nat.le_refl _) _)) ?_); rintro e w1 ⟨l1, rfl, hb, hl1, hle1, hlq⟩; have HB1 : Hid (Bar g w w1) := HB.out.trans ((Bar.of_below ((Below.refl _ _).alloc (Nat.le_refl _) _)).trans hb); have HL1 : Hid (LeftAt w1 g l1) := hl1; have HQ : Hid (l1 + ks[j].n = l) := hlq rfl; clear hb hl1 hlq)
        go_roundw
        case rel => exact ⟨HB1.out, j + 1, l1, by omega, by go_num, HL1.out, HRT'.out, by show _ = _; have := HN.out; have := HW.out; have := HQ.out; omega⟩
        case measure => simp [intOf]; omega
      | false =>
        rw [hR] at HC
        have HF : Hid ((rights ks (41 - deep) && decide (ns ks ≤ left)) = false) := by
          show _ = _
          rw [Bool.and_eq_false_iff] at *
          rcases hR with hR | hR
          · exact Or.inl (rights_no hlt hR)
          · right
            rw [decide_eq_false_iff_not] at *
            have h1 := HN.out
            have h2 := HW.out
            have h3 := ns_take_le ks (j + 1)
            omega
        have hll : l ≤ left := by have := HN.out; omega
        clear HRT hR HL HN HW
        go_wp2_with (go_at_call 74; refine (Calls.mono (HC.out _ ((Below.refl _ _).alloc (Nat.le_refl _) _)) ?_); rintro e w1 ⟨l1, rfl, hb, hl1, hle1, hlq⟩; have HB1 : Hid (Bar g w w1) := HB.out.trans ((Bar.of_below ((Below.refl _ _).alloc (Nat.le_refl _) _)).trans hb); have HL1 : Hid (LeftAt w1 g l1) := hl1; clear hb hl1 hlq)
        go_ret
        exact ⟨l1, by rw [HF.out]; rfl, HB1.out, HL1.out, by omega, by rw [HF.out]; simp⟩
    · have HF : Hid ((rights ks (41 - deep) && decide (ns ks ≤ left)) = true) := by
        show _ = _
        have h1 := HRT.out
        have h2 := HN.out
        rw [List.take_of_length_le (by omega)] at h1 h2
        rw [h1, decide_eq_true (by omega)]; rfl
      have HN' : Hid (l + ns ks = left) := by
        show _ = _
        have h2 := HN.out
        rw [List.take_of_length_le (by omega)] at h2
        exact h2
      clear HRT HL HN HR HKS
      go_wp2
      go_ret
      exact ⟨l, by rw [HF.out]; rfl, HB.out, HLA.out, by have := HN'.out; omega, fun _ => HN'.out⟩

theorem form_cases (k : Int) (s : ByteArray) (n : Int) (ao : Option Addr) (l cap : Nat) :
    (formV k s n ao l cap = .iface 120 (.agg #[.int .i64 n]) ∧ oneT k s n l = decide (0 ≤ n ∧ n ≤ 99999) ∧ l = 0) ∨
    (formV k s n ao l cap = .iface 143 (.agg #[.int .i64 n]) ∧ oneT k s n l = decide (-999999999 ≤ n ∧ n ≤ 999999999) ∧ l = 0) ∨
    (formV k s n ao l cap = .iface 145 (.agg #[.string s]) ∧ oneT k s n l = nameOk s ∧ l = 0) ∨
    (formV k s n ao l cap = .iface 122 (.agg #[.string s, .slice ao l cap]) ∧ oneT k s n l = (nameOk s && decide (1 ≤ l ∧ l ≤ 5))) ∨
    (formV k s n ao l cap = .iface 146 (.agg #[]) ∧ oneT k s n l = false) := by
  by_cases h1 : k = 1
  · subst h1
    by_cases h : s.size = 0 ∧ l = 0
    · left; simp [formV, oneT, h]
    · right; right; right; right
      refine ⟨by simp only [formV]; rw [if_neg (by omega), if_neg (by omega), if_neg (by omega), if_neg (by omega)], ?_⟩
      simp only [oneT]
      by_cases h5 : s.size = 0
      · have h6 : l ≠ 0 := fun h6 => h ⟨h5, h6⟩
        simp [h6]
      · simp [h5]
  by_cases h3 : k = 3
  · subst h3
    by_cases h : s.size = 0 ∧ l = 0
    · right; left; simp [formV, oneT, h]
    · right; right; right; right
      refine ⟨by simp only [formV]; rw [if_neg (by omega), if_neg (by omega), if_neg (by omega), if_neg (by omega)], ?_⟩
      simp only [oneT]
      by_cases h5 : s.size = 0
      · have h6 : l ≠ 0 := fun h6 => h ⟨h5, h6⟩
        simp [h6]
      · simp [h5]
  by_cases h2 : k = 2
  · subst h2
    by_cases h : n = 0 ∧ l = 0
    · right; right; left; simp [formV, oneT, h]
    · right; right; right; right; simp [formV, oneT, h]
      intro _ h3; exact fun h4 => h ⟨h3, h4⟩
  by_cases h4 : k = 4
  · subst h4
    by_cases h : n = 0
    · right; right; right; left; simp [formV, oneT, h]
    · right; right; right; right; simp [formV, oneT, h]
  right; right; right; right; simp [formV, oneT, h1, h2, h3, h4]

set_option maxHeartbeats 4000000 in
set_option maxRecDepth 20000 in
theorem right_within (t : Tm) : RwOk t := by
  refine tm_ind (p := RwOk) ?_ t
  clear t
  intro k s n ks hks w0 w v deep left g hin hb0 hg hl hd hle
  unfold TmIn at hin
  obtain ⟨ao, cap, rfl, hk, hn, hs, hlen, hcap, hrow⟩ := hin
  obtain ⟨W, hW⟩ : ∃ W, W = w.alloc (.cells #[.int .i64 k, .string s, .int .i64 n, .slice ao ks.length cap] 46) := ⟨_, rfl⟩
  have hbW : Below w.heap.size w W := by rw [hW]; exact (Below.refl _ _).alloc (Nat.le_refl _) _
  have hlW : LeftAt W g left := hl.keep hbW
  obtain ⟨glt, gc, gf⟩ := hlW
  rw [hW] at glt gc gf
  by_cases h0 : deep = 0
  · subst h0
    have HF : Hid (((Tm.mk k s n ks).right (41 - 0) && decide ((Tm.mk k s n ks).n ≤ left)) = false) := by
      show _ = _
      rw [right_mk]; simp
    have HL : Hid _ := hl.keep hbW
    have HB : Hid _ := hbW
    clear hks hrow hl hbW
    go_enter Tryd.func74, Tryd.ntmps74
    go_wp2
    go_ret
    exact ⟨left, by rw [HF.out]; rfl, by rw [← hW]; exact Bar.of_below HB.out, by rw [← hW]; exact HL.out, by omega, by rw [HF.out]; simp⟩
  have e0 : ((deep : Int) == 0) = false := beq_eq_false_iff_ne.2 (by omega)
  by_cases h1 : left = 0
  · subst h1
    have HF : Hid (((Tm.mk k s n ks).right (41 - deep) && decide ((Tm.mk k s n ks).n ≤ 0)) = false) := by
      show _ = _
      rw [n_mk]; simp
    have HL : Hid _ := hl.keep hbW
    have HB : Hid _ := hbW
    clear hks hrow hl hbW
    go_enter Tryd.func74, Tryd.ntmps74
    go_wp2
    go_ret
    exact ⟨0, by rw [HF.out]; rfl, by rw [← hW]; exact Bar.of_below HB.out, by rw [← hW]; exact HL.out, by omega, by rw [HF.out]; simp⟩
  have e1 : ((left : Int) == 0) = false := beq_eq_false_iff_ne.2 (by omega)
  have HFM := implForm k s n ao ks.length cap (by omega)
  obtain ⟨W1, hW1⟩ : ∃ W1, W1 = (w.alloc (.cells #[.int .i64 k, .string s, .int .i64 n, .slice ao ks.length cap] 46)).setCell ⟨g, 0, none⟩ (.int .i64 ((left : Int) - 1)) := ⟨_, rfl⟩
  have hblk : (w.alloc (.cells #[.int .i64 k, .string s, .int .i64 n, .slice ao ks.length cap] 46)).heap[w.heap.size]? = some (.cells #[.int .i64 k, .string s, .int .i64 n, .slice ao ks.length cap] 46 (0, 0)) := alloc_at _ _ rfl
  have hne : ∀ i, (⟨g, 0, none⟩ : Addr) ≠ ⟨w.heap.size, i, none⟩ := fun i e => by have := hl.lt; cases e; omega
  have d0 : ((w.alloc (.cells #[.int .i64 k, .string s, .int .i64 n, .slice ao ks.length cap] 46)).setCell ⟨g, 0, none⟩ (.int .i64 ((left : Int) - 1))).cell? ⟨w.heap.size, 0, none⟩ = some (.int .i64 k) := by
    rw [World.cell?_setCell_other _ _ _ _ (hne 0)]; exact blk_cell (i := 0) hblk (by simp)
  have d1 : ((w.alloc (.cells #[.int .i64 k, .string s, .int .i64 n, .slice ao ks.length cap] 46)).setCell ⟨g, 0, none⟩ (.int .i64 ((left : Int) - 1))).cell? ⟨w.heap.size, 1, none⟩ = some (.string s) := by
    rw [World.cell?_setCell_other _ _ _ _ (hne 1)]; exact blk_cell (i := 1) hblk (by simp)
  have d2 : ((w.alloc (.cells #[.int .i64 k, .string s, .int .i64 n, .slice ao ks.length cap] 46)).setCell ⟨g, 0, none⟩ (.int .i64 ((left : Int) - 1))).cell? ⟨w.heap.size, 2, none⟩ = some (.int .i64 n) := by
    rw [World.cell?_setCell_other _ _ _ _ (hne 2)]; exact blk_cell (i := 2) hblk (by simp)
  have d3 : ((w.alloc (.cells #[.int .i64 k, .string s, .int .i64 n, .slice ao ks.length cap] 46)).setCell ⟨g, 0, none⟩ (.int .i64 ((left : Int) - 1))).cell? ⟨w.heap.size, 3, none⟩ = some (.slice ao ks.length cap) := by
    rw [World.cell?_setCell_other _ _ _ _ (hne 3)]; exact blk_cell (i := 3) hblk (by simp)
  have HB1 : Hid (Bar g w W1) := by rw [hW1, ← hW]; exact (Bar.of_below hbW).trans (Bar.set _ _ _ _)
  have HL1 : Hid (LeftAt W1 g (left - 1)) := by
    have := (hl.keep hbW).set (left - 1)
    rw [show ((left - 1 : Nat) : Int) = (left : Int) - 1 by omega] at this
    rw [hW1, ← hW]; exact this
  clear hblk hne
  rcases form_cases k s n ao ks.length cap with ⟨hf, ho, hz⟩ | ⟨hf, ho, hz⟩ | ⟨hf, ho, hz⟩ | ⟨hf, ho⟩ | ⟨hf, ho⟩
  · rw [hf] at HFM
    replace HFM : Hid _ := HFM
    have hke : ks = [] := List.eq_nil_of_length_eq_zero hz
    have HV : Hid (((Tm.mk k s n ks).right (41 - deep) && decide ((Tm.mk k s n ks).n ≤ left)) = decide (0 ≤ n ∧ n ≤ 99999)) := by
      show _ = _
      rw [right_mk, n_mk, ho, hke, decide_eq_true (by omega), decide_eq_true (show 1 + ns [] ≤ left from (show 1 + 0 ≤ left by omega))]
      simp [rights, Tm.right.rights]
    have HN1 : Hid ((Tm.mk k s n ks).n = 1) := by
      show _ = _
      rw [n_mk, hke]; rfl
    clear hks hrow hl hbW hb0 hf hz ho hke
    go_enter Tryd.func74, Tryd.ntmps74
    go_wp2_with (go_at_call 82; refine (Calls.mono (HFM.out _) ?_); rintro e w1 ⟨rfl, hb⟩; rw [← hW1] at hb; have HL2 : Hid (LeftAt w1 g (left - 1)) := HL1.out.keep hb; have HB2 : Hid (Bar g w w1) := HB1.out.trans (Bar.of_below hb); clear hb)
    go_at_call 142
    refine (Calls.mono (rightVar n w1) ?_)
    rintro e w2 ⟨rfl, hb⟩
    have HL3 : Hid (LeftAt w2 g (left - 1)) := HL2.out.keep hb
    have HB3 : Hid (Bar g w w2) := HB2.out.trans (Bar.of_below hb)
    clear hb
    go_wp2
    go_ret
    exact ⟨left - 1, by rw [HV.out, Bool.decide_and]; rfl, HB3.out, HL3.out, by omega, fun _ => by have := HN1.out; omega⟩
  · rw [hf] at HFM
    replace HFM : Hid _ := HFM
    have hke : ks = [] := List.eq_nil_of_length_eq_zero hz
    have HV : Hid (((Tm.mk k s n ks).right (41 - deep) && decide ((Tm.mk k s n ks).n ≤ left)) = decide (-999999999 ≤ n ∧ n ≤ 999999999)) := by
      show _ = _
      rw [right_mk, n_mk, ho, hke, decide_eq_true (by omega), decide_eq_true (show 1 + ns [] ≤ left from (show 1 + 0 ≤ left by omega))]
      simp [rights, Tm.right.rights]
    have HN1 : Hid ((Tm.mk k s n ks).n = 1) := by
      show _ = _
      rw [n_mk, hke]; rfl
    clear hks hrow hl hbW hb0 hf hz ho hke
    go_enter Tryd.func74, Tryd.ntmps74
    go_wp2_with (go_at_call 82; refine (Calls.mono (HFM.out _) ?_); rintro e w1 ⟨rfl, hb⟩; rw [← hW1] at hb; have HL2 : Hid (LeftAt w1 g (left - 1)) := HL1.out.keep hb; have HB2 : Hid (Bar g w w1) := HB1.out.trans (Bar.of_below hb); clear hb)
    go_at_call 145
    refine (Calls.mono (rightInt n w1) ?_)
    rintro e w2 ⟨rfl, hb⟩
    have HL3 : Hid (LeftAt w2 g (left - 1)) := HL2.out.keep hb
    have HB3 : Hid (Bar g w w2) := HB2.out.trans (Bar.of_below hb)
    clear hb
    go_wp2
    go_ret
    exact ⟨left - 1, by rw [HV.out, Bool.decide_and]; rfl, HB3.out, HL3.out, by omega, fun _ => by have := HN1.out; omega⟩
  · rw [hf] at HFM
    replace HFM : Hid _ := HFM
    have hke : ks = [] := List.eq_nil_of_length_eq_zero hz
    have HV : Hid (((Tm.mk k s n ks).right (41 - deep) && decide ((Tm.mk k s n ks).n ≤ left)) = nameOk s) := by
      show _ = _
      rw [right_mk, n_mk, ho, hke, decide_eq_true (by omega), decide_eq_true (show 1 + ns [] ≤ left from (show 1 + 0 ≤ left by omega))]
      simp [rights, Tm.right.rights]
    have HN1 : Hid ((Tm.mk k s n ks).n = 1) := by
      show _ = _
      rw [n_mk, hke]; rfl
    clear hks hrow hl hbW hb0 hf hz ho hke
    go_enter Tryd.func74, Tryd.ntmps74
    go_wp2_with (go_at_call 82; refine (Calls.mono (HFM.out _) ?_); rintro e w1 ⟨rfl, hb⟩; rw [← hW1] at hb; have HL2 : Hid (LeftAt w1 g (left - 1)) := HL1.out.keep hb; have HB2 : Hid (Bar g w w1) := HB1.out.trans (Bar.of_below hb); clear hb)
    go_at_call 147
    refine (Calls.mono (rightAtom s hs w1) ?_)
    rintro e w2 ⟨rfl, hb⟩
    have HL3 : Hid (LeftAt w2 g (left - 1)) := HL2.out.keep hb
    have HB3 : Hid (Bar g w w2) := HB2.out.trans (Bar.of_below hb)
    clear hb
    go_wp2
    go_ret
    exact ⟨left - 1, by rw [HV.out]; rfl, HB3.out, HL3.out, by omega, fun _ => by have := HN1.out; omega⟩
  · rw [hf] at HFM
    replace HFM : Hid _ := HFM
    have HS := rightStruct s hs ao ks.length cap (by omega)
    cases hR : (nameOk s && decide (1 ≤ ks.length ∧ ks.length ≤ 5)) with
    | false =>
      rw [hR] at HS ho
      replace HS : Hid _ := HS
      have HV : Hid (((Tm.mk k s n ks).right (41 - deep) && decide ((Tm.mk k s n ks).n ≤ left)) = false) := by
        show _ = _
        rw [right_mk, ho]; simp
      clear hks hrow hl hbW hb0 hf ho
      go_enter Tryd.func74, Tryd.ntmps74
      go_wp2_with (first | (go_at_call 82; refine (Calls.mono (HFM.out _) ?_); rintro e w1 ⟨rfl, hb⟩; rw [← hW1] at hb; have HL2 : Hid (LeftAt w1 g (left - 1)) := HL1.out.keep hb; have HB2 : Hid (Bar g w w1) := HB1.out.trans (Bar.of_below hb); clear hb) | fail)
      have hb2 : Below w1.heap.size w1 (w1.alloc (.cells #[.string s, .slice ao ks.length cap] 122)) := (Below.refl _ _).alloc (Nat.le_refl _) _
      go_at_call 92
      refine (Calls.mono (HS.out _) ?_)
      rintro e w2 ⟨rfl, hb⟩
      replace hb2 := hb2.trans (hb.mono hb2.size)
      have HL3 : Hid (LeftAt w2 g (left - 1)) := HL2.out.keep hb2
      have HB3 : Hid (Bar g w w2) := HB2.out.trans (Bar.of_below hb2)
      clear hb hb2
      go_wp2
      go_ret
      exact ⟨left - 1, by rw [HV.out]; rfl, HB3.out, HL3.out, by omega, by rw [HV.out]; simp⟩
    | true =>
      rw [hR] at HS ho
      replace HS : Hid _ := HS
      have HV : Hid (((Tm.mk k s n ks).right (41 - deep) && decide ((Tm.mk k s n ks).n ≤ left)) = (rights ks (41 - (deep - 1)) && decide (ns ks ≤ left - 1))) := by
        show _ = _
        rw [right_mk, n_mk, ho, decide_eq_true (show 41 - deep ≤ 40 by omega), Bool.true_and, Bool.true_and, show 41 - (deep - 1) = 41 - deep + 1 by omega]
        congr 1
        exact decide_eq_decide.2 (by omega)
      have HN1 : Hid ((Tm.mk k s n ks).n = 1 + ns ks) := n_mk _ _ _ _
      have HAL : Hid (∀ w2, Bar g w w2 → LeftAt w2 g (left - 1) → Calls Tryd.prog 93 #[.slice ao ks.length cap, .int .i64 ((deep : Int) - 1), .pointer (some ⟨g, 0, none⟩)] w2 (RwPost w2 g (left - 1) (rights ks (41 - (deep - 1)) && decide (ns ks ≤ left - 1)) (ns ks))) := fun w2 hb hl2 => by
        have := all_right ks hks w0 w2 ao cap (deep - 1) (left - 1) g hrow hlen hcap (hb0.trans (hb.below hg hb0.size)) hg hl2 (by omega) (by omega)
        rwa [show ((deep - 1 : Nat) : Int) = (deep : Int) - 1 by omega] at this
      obtain ⟨R, hRR⟩ : ∃ R, R = (rights ks (41 - (deep - 1)) && decide (ns ks ≤ left - 1)) := ⟨_, rfl⟩
      rw [← hRR] at HV HAL
      clear hks hrow hl hbW hb0 hf ho hRR
      go_enter Tryd.func74, Tryd.ntmps74
      go_wp2_with (first | (go_at_call 82; refine (Calls.mono (HFM.out _) ?_); rintro e w1 ⟨rfl, hb⟩; rw [← hW1] at hb; have HL2 : Hid (LeftAt w1 g (left - 1)) := HL1.out.keep hb; have HB2 : Hid (Bar g w w1) := HB1.out.trans (Bar.of_below hb); clear hb) | fail)
      have hb2 : Below w1.heap.size w1 (w1.alloc (.cells #[.string s, .slice ao ks.length cap] 122)) := (Below.refl _ _).alloc (Nat.le_refl _) _
      have hblk : (w1.alloc (.cells #[.string s, .slice ao ks.length cap] 122)).heap[w1.heap.size]? = some (.cells #[.string s, .slice ao ks.length cap] 122 (0, 0)) := alloc_at _ _ rfl
      go_at_call 92
      refine (Calls.mono (HS.out _) ?_)
      rintro e w2 ⟨rfl, hb⟩
      have cs : w2.cell? ⟨w1.heap.size, 1, none⟩ = some (.slice ao ks.length cap) := blk_cell (i := 1) ((hb.block _ (by simp)).trans hblk) (by simp)
      replace hb2 := hb2.trans (hb.mono hb2.size)
      have HL3 : Hid (LeftAt w2 g (left - 1)) := HL2.out.keep hb2
      have HB3 : Hid (Bar g w w2) := HB2.out.trans (Bar.of_below hb2)
      clear hb hb2 hblk
      go_wp2_with (go_at_call 93; refine (Calls.mono (HAL.out _ HB3.out HL3.out) ?_); rintro e w3 ⟨l3, rfl, hb, hl3, hle3, hq⟩; have HB4 : Hid (Bar g w w3) := HB3.out.trans hb; have HL4 : Hid _ := hl3; have HQ : Hid _ := hq; clear hb hl3 hq)
      go_ret
      exact ⟨l3, by rw [HV.out]; rfl, HB4.out, HL4.out, by omega, fun h => by rw [HV.out] at h; have := HQ.out h; have := HN1.out; omega⟩
  · rw [hf] at HFM
    replace HFM : Hid _ := HFM
    have HV : Hid (((Tm.mk k s n ks).right (41 - deep) && decide ((Tm.mk k s n ks).n ≤ left)) = false) := by
      show _ = _
      rw [right_mk, ho]; simp
    clear hks hrow hl hbW hb0 hf ho
    go_enter Tryd.func74, Tryd.ntmps74
    go_wp2_with (go_at_call 82; refine (Calls.mono (HFM.out _) ?_); rintro e w1 ⟨rfl, hb⟩; rw [← hW1] at hb; have HL2 : Hid (LeftAt w1 g (left - 1)) := HL1.out.keep hb; have HB2 : Hid (Bar g w w1) := HB1.out.trans (Bar.of_below hb); clear hb)
    go_at_call 149
    refine (Calls.mono (rightNo w1) ?_)
    rintro e w2 ⟨rfl, hb⟩
    have HL3 : Hid (LeftAt w2 g (left - 1)) := HL2.out.keep hb
    have HB3 : Hid (Bar g w w2) := HB2.out.trans (Bar.of_below hb)
    clear hb
    go_wp2
    go_ret
    exact ⟨left - 1, by rw [HV.out]; rfl, HB3.out, HL3.out, by omega, by rw [HV.out]; simp⟩

set_option maxRecDepth 20000 in
theorem implOk (t : Tm) (w : World) (v : Value) (h : TmIn w t v) :
    Calls Tryd.prog 50 #[v] w fun e w' => e = .returned (.bool t.ok) ∧ Below w.heap.size w w' := by
  obtain ⟨k, s, n, ao, len, cap, rfl⟩ := tm_shape h
  obtain ⟨W, hW⟩ : ∃ W, W = w.alloc (.cells #[.int .i64 k, .string s, .int .i64 n, .slice ao len cap] 46) := ⟨_, rfl⟩
  have hbW : Below w.heap.size w W := by rw [hW]; exact (Below.refl _ _).alloc (Nat.le_refl _) _
  have hblk : W.heap[w.heap.size]? = some (.cells #[.int .i64 k, .string s, .int .i64 n, .slice ao len cap] 46 (0, 0)) := by rw [hW]; exact alloc_at _ _ rfl
  obtain ⟨W1, hW1⟩ : ∃ W1, W1 = W.alloc (.cells #[.int .i64 400] 3) := ⟨_, rfl⟩
  have hbW1 : Below W.heap.size W W1 := by rw [hW1]; exact (Below.refl _ _).alloc (Nat.le_refl _) _
  have hblk1 : W1.heap[W.heap.size]? = some (.cells #[.int .i64 400] 3 (0, 0)) := by rw [hW1]; exact alloc_at _ _ rfl
  have hwW : w.heap.size < W.heap.size := by rw [hW]; simp
  have hl : LeftAt W1 W.heap.size 400 := ⟨by rw [hW1]; simp, blk_cell (i := 0) hblk1 (by simp), by rw [hW1]; simp⟩
  have hsz : W.heap.size = w.heap.size + 1 := by rw [hW]; simp
  have HC := right_within t w W1 _ 40 400 W.heap.size h (hbW.trans (hbW1.mono hbW.size)) (by omega) hl (by omega) (by omega)
  have HB : Hid (Below w.heap.size w W1) := hbW.trans (hbW1.mono hbW.size)
  have HOK : Hid ((t.right (41 - 40) && decide (t.n ≤ 400)) = t.ok) := by
    show _ = _
    unfold Tm.ok
    rw [Bool.and_comm]
  rw [HOK.out] at HC
  rw [hW1, hW] at HC
  have hsz2 : W1.heap.size = w.heap.size + 2 := by rw [hW1]; simp [hsz]
  rw [show (w.alloc (.cells #[.int .i64 k, .string s, .int .i64 n, .slice ao len cap] 46)).heap.size = w.heap.size + 1 by simp] at HC
  replace HC : Hid _ := HC
  clear h hl hblk hblk1 hbW hbW1 HOK
  go_enter Tryd.func50, Tryd.ntmps50
  go_wp2_with (go_at_call 74; refine (Calls.mono HC.out ?_); rintro e w1 ⟨l3, rfl, hb, hl3, hle3, hq⟩; rw [← hW, ← hW1] at hb; have HB1 : Hid (Below w.heap.size w w1) := HB.out.trans (hb.below (by omega) (by omega)); clear hb hl3 hq)
  go_ret
  exact ⟨rfl, HB1.out⟩
end Go.Proofs.YtmhmlkdoaojimapDoor

/- What a TmVar stands for, again and again. Plain. -/
namespace Go.Proofs.YtmhmlkdoaojimapDoor

def Tm.kind : Tm → Int
  | .mk k _ _ _ => k
def Tm.num : Tm → Int
  | .mk _ _ n _ => n

/-- what a term stands for in the list, if it stands for something -/
def nextT (ks : List Tm) (t : Tm) : Option Tm :=
  if t.kind = 1 ∧ 0 ≤ t.num then
    match ks[t.num.toNat]? with
    | none => none
    | some u => if u.kind = 0 then none else some u
  else none

def walkT (ks : List Tm) : Nat → Tm → Tm
  | 0, t => t
  | n + 1, t => match nextT ks t with
    | none => t
    | some u => walkT ks n u

theorem walkT_none {ks : List Tm} {t : Tm} (h : nextT ks t = none) (n : Nat) : walkT ks n t = t := by
  cases n with
  | zero => rfl
  | succ n => unfold walkT; rw [h]
theorem walkT_some {ks : List Tm} {t u : Tm} (h : nextT ks t = some u) (n : Nat) : walkT ks (n + 1) t = walkT ks n u := by
  show (match nextT ks t with | none => t | some u => walkT ks n u) = _
  rw [h]

theorem nextT_kind {ks : List Tm} {t : Tm} (h : t.kind ≠ 1) : nextT ks t = none := by
  unfold nextT; rw [if_neg (by intro e; exact h e.1)]
theorem nextT_out {ks : List Tm} {t : Tm} (h : t.num < 0 ∨ (ks.length : Int) ≤ t.num) : nextT ks t = none := by
  unfold nextT
  by_cases h1 : t.kind = 1 ∧ 0 ≤ t.num
  · rw [if_pos h1, List.getElem?_eq_none (by omega)]
  · rw [if_neg h1]
theorem nextT_at {ks : List Tm} {t : Tm} {j : Nat} (hk : t.kind = 1) (hj : t.num = (j : Int)) (hlt : j < ks.length) : nextT ks t = if ks[j].kind = 0 then none else some ks[j] := by
  unfold nextT
  rw [if_pos ⟨hk, by omega⟩, show t.num.toNat = j by omega, List.getElem?_eq_getElem hlt]

/-- it is a term of the list, or the term itself -/
theorem walkT_mem (ks : List Tm) (n : Nat) (t : Tm) : walkT ks n t = t ∨ walkT ks n t ∈ ks := by
  induction n generalizing t with
  | zero => exact Or.inl rfl
  | succ n ih =>
    cases h : nextT ks t with
    | none => exact Or.inl (walkT_none h _)
    | some u =>
      rw [walkT_some h]
      have hu : u ∈ ks := by
        unfold nextT at h
        split at h
        · split at h
          · cases h
          · rename_i x hx
            split at h
            · cases h
            · cases h; exact List.mem_of_getElem? hx
        · cases h
      rcases ih u with e | e
      · rw [e]; exact Or.inr hu
      · exact Or.inr e
end Go.Proofs.YtmhmlkdoaojimapDoor

/- A term with other numbers of TmVars. Plain. -/
namespace Go.Proofs.YtmhmlkdoaojimapDoor

def Tm.shift (b : Int) : Tm → Tm
  | .mk k s n ks => .mk k s (if k = 1 ∧ s.size = 0 ∧ ks.length = 0 then n + b else n) (shifts b ks)
where shifts (b : Int) : List Tm → List Tm
  | [] => []
  | t :: ts => t.shift b :: shifts b ts
abbrev shifts := Tm.shift.shifts
theorem shift_mk (b k : Int) (s : ByteArray) (n : Int) (ks : List Tm) : (Tm.mk k s n ks).shift b = .mk k s (if k = 1 ∧ s.size = 0 ∧ ks.length = 0 then n + b else n) (shifts b ks) := by simp [Tm.shift, shifts]
theorem shifts_map (b : Int) (ks : List Tm) : shifts b ks = ks.map (Tm.shift b) := by
  induction ks with
  | nil => rfl
  | cons t r ih => simp only [shifts, Tm.shift.shifts, List.map_cons] at *; rw [ih]

/-- what shiftedRight takes: no kids, or one of a Name and kids that it takes -/
def Tm.shp (b : Int) : Tm → Prop
  | .mk k _ n ks => (k = 1 → -9223372036854775808 ≤ n + b ∧ n + b ≤ 9223372036854775807) ∧ (ks = [] ∨ (k = 4 ∧ n = 0)) ∧ shps b ks
where shps (b : Int) : List Tm → Prop
  | [] => True
  | t :: ts => t.shp b ∧ shps b ts
abbrev shps := Tm.shp.shps
theorem shp_mk (b k : Int) (s : ByteArray) (n : Int) (ks : List Tm) : (Tm.mk k s n ks).shp b = ((k = 1 → -9223372036854775808 ≤ n + b ∧ n + b ≤ 9223372036854775807) ∧ (ks = [] ∨ (k = 4 ∧ n = 0)) ∧ shps b ks) := by simp [Tm.shp, shps]
theorem shps_all (b : Int) (ks : List Tm) : shps b ks ↔ ∀ t ∈ ks, t.shp b := by
  induction ks with
  | nil => simp [shps, Tm.shp.shps]
  | cons t r ih => simp only [shps, Tm.shp.shps, List.mem_cons, forall_eq_or_imp] at *; rw [ih]

theorem shift_zero (t : Tm) : t.shift 0 = t := by
  refine tm_ind (p := fun t => t.shift 0 = t) ?_ t
  intro k s n ks h
  rw [shift_mk, shifts_map]
  have e : ks.map (Tm.shift 0) = ks := by
    conv => rhs; rw [← List.map_id ks]
    exact List.map_congr_left fun t ht => h t ht
  rw [e]
  simp
end Go.Proofs.YtmhmlkdoaojimapDoor

/- A region that draws its order: a head whose operations read, or call what makes memory, taken in the order of its text over all later worlds; and behind it a tail that comes in its own order. -/
namespace Go.Proofs.YtmhmlkdoaojimapDoor
open Go.RowKit

section
variable {P : Program} {ops : Array Oper} {md : Region.Mode} {C : World → Prop}

/-- f operations of the head, in any order that may come, each quiet in the class; then L -/
def HeadQ (P : Program) (md : Region.Mode) (ops : Array Oper) (C : World → Prop) (n : Nat) (L : Array Bool → Act → Prop) : Nat → Array Bool → Act → Prop
  | 0, listed, a => L listed a
  | f + 1, listed, a => Region.ready md ops listed ≠ [] ∧ ∀ i ∈ Region.ready md ops listed, i < n ∧ qOp P ops C i (HeadQ P md ops C n L f (listed.setIfInBounds i true)) a

theorem headQ_any {n g : Nat} {L : Array Bool → Act → Prop} {Q : Exit → Act → World → Prop} (hL : ∀ listed a, L listed a → ∀ w, C w → wpAny P md ops Q g listed a w) (f : Nat) :
    ∀ (listed : Array Bool) (a : Act), HeadQ P md ops C n L f listed a → ∀ w, C w → wpAny P md ops Q (f + g) listed a w := by
  induction f with
  | zero => intro listed a h w hw; rw [Nat.zero_add]; exact hL _ _ h w hw
  | succ f ih =>
    intro listed a h w hw
    rw [show f + 1 + g = (f + g) + 1 by omega]
    exact ⟨fun h0 => absurd h0 h.1, fun i hi => wpOp_of_qOp hw (fun a' w' hw' h' => ih _ a' h' w' hw') (h.2 i hi).2⟩

theorem headQ_first {n i : Nat} {oi : Oper} {v : Value} {L : Array Bool → Act → Prop} (hi : ops[i]? = some oi) (hsel : ∀ (j : Nat) (o : Oper) cs b, ops[j]? = some o → o.op ≠ .select cs b)
    (hs : Region.sinkB md ops n = true) (hc : Region.chainB md ops n = true) (hn : n < ops.size) (hin : i < n) (hdone : ∀ listed a, L listed a → ∀ j ∈ Region.ready md ops listed, n ≤ j) (f : Nat) :
    ∀ (listed : Array Bool) (a : Act), HeadInv md ops n listed →
      (∀ j oj, ops[j]? = some oj → j ≠ i → listed.getD j true = false → (∀ e ∈ oj.after, Region.binds md e = true → e.on ≠ i) → oi.apart ops oj = true) →
      i ∈ Region.ready md ops listed → YieldsIn P ops C oi v a → HeadQ P md ops C n L f (listed.setIfInBounds i true) (a.put oi.dst v) → HeadQ P md ops C n L (f + 1) listed a := by
  induction f with
  | zero =>
    intro listed a inv _ hr hy H
    have hun := (mem_ready.1 hr).1
    refine ⟨fun h => (by rw [h] at hr; cases hr), fun j hj => ?_⟩
    have hjn : j < n := Nat.lt_of_not_le fun h => tail_waits hs hc hn inv _ i rfl hin hun j h hj
    refine ⟨hjn, ?_⟩
    by_cases hji : j = i
    · subst hji; exact hy.qOp hi H
    · have := hdone _ _ H j (ready_mono hj hji)
      omega
  | succ f ih =>
    intro listed a inv hfree hr hy H
    have hun := (mem_ready.1 hr).1
    refine ⟨fun h => (by rw [h] at hr; cases hr), fun j hj => ?_⟩
    have hjn : j < n := Nat.lt_of_not_le fun h => tail_waits hs hc hn inv _ i rfl hin hun j h hj
    refine ⟨hjn, ?_⟩
    by_cases hji : j = i
    · subst hji; exact hy.qOp hi H
    · obtain ⟨hjun, oj, hoj, hall⟩ := mem_ready.1 hj
      have hnot : ∀ e ∈ oj.after, Region.binds md e = true → e.on ≠ i := fun e he hb heq => by
        have h1 := hall e he hb
        rw [heq, getD_both hun] at h1
        cases h1
      have h2 := qOp_put hoj (hfree j oj hoj hji hjun hnot) (fun cs b => hsel i oi cs b hi) (fun cs b => hsel j oj cs b hoj) hy (H.2 j (ready_mono hj hji)).2
      refine qOp_mono (fun a' h3 => ih _ a' (inv.set hj hjn) (fun k ok hk hki hu hno => hfree k ok hk hki ?_ hno) (ready_mono hr (Ne.symm hji)) h3.1 ?_) h2
      · by_cases hjk : j = k
        · subst hjk; exact hjun
        · rw [getD_set_ne true hjk] at hu; exact hu
      · rw [Array.setIfInBounds_comm _ _ hji]
        exact h3.2

theorem headQ_lex {n g : Nat} {R : Act → Prop} (hsel : Region.noSelect ops = true) (hs : Region.sinkB md ops n = true) (hc : Region.chainB md ops n = true) (hn : n < ops.size) (l : List Oper) :
    ∀ (k : Nat) (listed : Array Bool) (a : Act), (∀ j, j < l.length → l[j]? = ops[k + j]?) → k + l.length = n → HeadInv md ops n listed → Region.lexHead md ops g l.length k listed = true → wpQuiet P ops C R l a →
      HeadQ P md ops C n (fun listed' a' => Region.seqB md ops g n listed' = true ∧ R a') l.length listed a := by
  induction l with
  | nil =>
    intro k listed a _ hk _ hB h
    obtain rfl : k = n := by simpa using hk
    exact ⟨by simpa [Region.lexHead] using hB, h⟩
  | cons o l ih =>
    intro k listed a hl hk inv hB h
    have h0 : ops[k]? = some o := by simpa using (hl 0 (by simp)).symm
    simp only [List.length_cons, Region.lexHead, Bool.and_eq_true] at hB
    obtain ⟨⟨hr, hf⟩, hB'⟩ := hB
    have hkn : k < n := by simp only [List.length_cons] at hk; omega
    have hr' : k ∈ Region.ready md ops listed := by simpa using hr
    have hst : qOp P ops C k (wpQuiet P ops C R l) a := by unfold qOp; simp only [h0]; exact h
    obtain ⟨v, hy, hK⟩ := yieldsIn_of_qOp h0 hst
    exact headQ_first h0 (Region.noSelect_spec hsel) hs hc hn hkn (fun listed' a' hL => seqB_ready hL.1) l.length listed a inv (Region.free_spec h0 hf) hr' hy
      (ih (k + 1) _ _ (fun j hj => by have := hl (j + 1) (by simp; omega); simpa [Nat.add_assoc, Nat.add_comm 1 j] using this) (by simp only [List.length_cons] at hk; omega) (inv.set hr' hkn) hB' hK)

/-- n operations of a head, over all later worlds, and the rest in its own order -/
theorem wp_region_tail {id : Nat} {Q : Exit → Act → World → Prop} {a : Act} {w : World} {l : List Oper} (n : Nat) (hm : P.follows .mixedOrders = true) (hB : Region.lexTailB .any l.toArray n = true)
    (h : wpQuiet P l.toArray (fun w' => ∃ u, w' = later w u) (fun a' => ∀ w', (∃ u, w' = later w u) → wpList P l.toArray Q (l.drop n) a' w') (l.take n) a) : (Code.region id l.toArray true).wp P Q a w := by
  simp only [Region.lexTailB, Bool.and_eq_true, decide_eq_true_eq] at hB
  obtain ⟨⟨⟨⟨hsel, hn⟩, hs⟩, hc⟩, hlex⟩ := hB
  have hn' : n < l.length := by simpa using hn
  have htl : (l.take n).length = n := by simp; omega
  have hdl : (l.drop n).length = l.toArray.size - n := by simp
  have inv0 : HeadInv .any l.toArray n (Array.replicate l.toArray.size false) :=
    ⟨by simp, fun j oj _ hl => (by rw [getD_replicate_false] at hl; cases hl), fun t _ ht => getD_in (by simpa using ht) (getD_replicate_false _ _)⟩
  have H := headQ_lex (md := .any) (g := l.toArray.size - n) hsel hs hc hn (l.take n) 0 _ a (fun j hj => by
    have hj' : j < n := by rw [htl] at hj; exact hj
    simp [hj']) (by simpa using htl) inv0 (by rw [htl]; exact hlex) h
  refine wp_region_any hm ?_
  have := headQ_any (Q := Q) (g := l.toArray.size - n) (fun listed a' hL w' hw' => by
    have := wpAny_of_seq (md := .any) (Q' := Q) (l.drop n) n listed a' w' (fun j => by simp [List.getElem?_drop]) (by rw [hdl]; exact hL.1) (hL.2 w' hw')
    rwa [hdl] at this) _ _ _ H _ ⟨w.drew, later_of (Below.refl w.heap.size w).drew⟩
  rw [htl, show n + (l.toArray.size - n) = l.toArray.size by omega] at this
  exact this
end
end Go.Proofs.YtmhmlkdoaojimapDoor
