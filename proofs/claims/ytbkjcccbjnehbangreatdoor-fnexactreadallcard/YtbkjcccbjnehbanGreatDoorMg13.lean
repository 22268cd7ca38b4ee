import Derived.Test.YtbkjcccbjnehbanGreatDoorMg12
import Derived.Test.YtbkjcccbjnehbanGreatDoorMg7
import Derived.Test.YtbkjcccbjnehbanGreatDoorMg1
import Derived.ProofKit
import Derived.Deep.RegionWith
import Derived.Test.YtbkjcccbjnehbanGreatDoorMg3
import Derived.Tactics
import Derived.Tactics2
import Derived.Defers
import Derived.Recover
import Derived.Laws.Pointers
namespace Go.Proofs.YtbkjcccbjnehbanGreatDoor
open Go.RowKit
structure LeftAt (w : World) (g l : Nat) : Prop where
 lt : g < w.heap.size
 c : w.cell? ⟨g, 0, none⟩ = some (.int .i64 (l : Int))
 fz : w.frozen? ⟨g, 0, none⟩ = false
structure Bar (g : Nat) (w w' : World) : Prop where
 os : w'.os = w.os
 tape : w'.tape = w.tape
 output : w'.output = w.output
 size : w.heap.size ≤ w'.heap.size
 block : ∀ k, k < w.heap.size → k ≠ g → w'.heap[k]? = w.heap[k]?
theorem Bar.refl (g : Nat) (w : World) : Bar g w w := ⟨rfl, rfl, rfl, Nat.le_refl _, fun _ _ _ => rfl⟩
theorem Bar.of_below {g : Nat} {w w' : World} (h : Below w.heap.size w w') : Bar g w w' := ⟨h.os, h.tape, h.output, h.size, fun k hk _ => h.block k hk⟩
theorem Bar.set (g k : Nat) (w : World) (v : Value) : Bar g w (w.setCell ⟨g, k, none⟩ v) :=
 ⟨rfl, rfl, rfl, by simp [World.setCell], fun j _ hne => by
   have : g ≠ j := fun h => hne h.symm
   simp [World.setCell, Array.getElem?_modify, this]⟩
theorem Bar.trans {g : Nat} {w w' w'' : World} (h : Bar g w w') (h' : Bar g w' w'') : Bar g w w'' :=
 ⟨h'.os.trans h.os, h'.tape.trans h.tape, h'.output.trans h.output, Nat.le_trans h.size h'.size, fun k hk hne => (h'.block k (Nat.lt_of_lt_of_le hk h.size) hne).trans (h.block k hk hne)⟩
theorem Bar.below {g B : Nat} {w w' : World} (h : Bar g w w') (hB : B ≤ g) (hw : B ≤ w.heap.size) : Below B w w' :=
 ⟨h.os, h.tape, h.output, h.size, fun k hk => h.block k (by omega) (by omega)⟩
theorem LeftAt.keep {w w' : World} {g l : Nat} (h : LeftAt w g l) (hb : Below w.heap.size w w') : LeftAt w' g l :=
 ⟨Nat.lt_of_lt_of_le h.lt hb.size, by rw [World.cell?_of_block (hb.block g h.lt)]; exact h.c, by rw [World.frozen?_of_block (hb.block g h.lt)]; exact h.fz⟩
theorem LeftAt.set {w : World} {g l : Nat} (h : LeftAt w g l) (l' : Nat) : LeftAt (w.setCell ⟨g, 0, none⟩ (.int .i64 (l' : Int))) g l' :=
 ⟨by simpa [World.setCell] using h.lt, World.cell?_setCell_same _ _ _ h.c, by rw [World.frozen?_setCell]; exact h.fz⟩
def RwPost (w : World) (g left : Nat) (r : Bool) (many : Nat) (e : Ending) (w' : World) : Prop :=
 ∃ left', e = .returned (.bool r) ∧ Bar g w w' ∧ LeftAt w' g left' ∧ left' ≤ left ∧ (r = true → left' + many = left)
def RwOk (t : Tm) : Prop := ∀ (w0 w : World) (v : Value) (deep left g : Nat), TmIn w0 t v → Below w0.heap.size w0 w → w0.heap.size ≤ g → LeftAt w g left → deep ≤ 40 → left ≤ 400 →
 Calls Tryz.prog 76 #[v, .int .i64 (deep : Int), .pointer (some ⟨g, 0, none⟩)] w (RwPost w g left (t.right (41 - deep) && decide (t.n ≤ left)) t.n)
def AllRw (ks : List Tm) : Prop := ∀ (w0 w : World) (ao : Option Addr) (cap : Nat) (deep left g : Nat), (ks ≠ [] → ∃ b off, ao = some ⟨b, off, none⟩ ∧ TmsIn w0 ks b off) → ks.length ≤ cap → cap ≤ maxLen → Below w0.heap.size w0 w → w0.heap.size ≤ g → LeftAt w g left → deep ≤ 40 → left ≤ 400 →
 Calls Tryz.prog 98 #[.slice ao ks.length cap, .int .i64 (deep : Int), .pointer (some ⟨g, 0, none⟩)] w (RwPost w g left (rights ks (41 - deep) && decide (ns ks ≤ left)) (ns ks))
set_option maxHeartbeats 4000000 in
theorem all_right (ks : List Tm) (hks : ∀ t ∈ ks, RwOk t) : AllRw ks := by
 intro w0 w ao cap deep left g hrow hlen hcap hb0 hg hl hd hle
 unfold maxLen at hcap
 have HKS : Hid _ := hks
 have HR : Hid _ := hrow
 have HL : Hid _ := hl
 have HB0 : Hid _ := hb0
 clear hks hrow hl hb0
 go_enter Tryz.func98, Tryz.ntmps98
 go_wp2
 go_loopw [11] (fun vi wr => Hid (Bar g w wr) ∧ ∃ j l : Nat, j ≤ ks.length ∧ vi = .int .i64 (j : Int) ∧ Hid (LeftAt wr g l) ∧ Hid (rights (ks.take j) (41 - deep) = true) ∧ Hid (l + ns (ks.take j) = left)) (fun i _ => ks.length - (intOf i).toNat)
 case atStart => exact ⟨Bar.refl _ _, 0, left, by omega, rfl, HL.out, by show _ = _; simp [rights_all], by show _ = _; simp [ns, Tm.n.ns]⟩
 case round =>
   obtain ⟨HB, j, l, hj, rfl, HLA, HRT, HN⟩ := hrel
   by_cases hlt : j < ks.length
   · obtain ⟨b, off, rfl, hin⟩ := HR.out (by intro e; subst e; simp at hlt)
     have hbw : Below w0.heap.size w0 wr := HB0.out.trans (HB.out.below hg HB0.out.size)
     obtain ⟨c0, c1, c2, c3, h0, h1, h2, h3, ht⟩ := hin.at j hlt
     obtain ⟨k1, s1, n1, ao1, len1, cap1, he⟩ := tm_shape ht
     obtain ⟨rfl, rfl, rfl, rfl⟩ : c0 = .int .i64 k1 ∧ c1 = .string s1 ∧ c2 = .int .i64 n1 ∧ c3 = .slice ao1 len1 cap1 := by simpa using he
     clear he
     have hbl : b < w0.heap.size := cell_blk h0
     replace h0 := cell_keep h0 hbw
     replace h1 := cell_keep h1 hbw
     replace h2 := cell_keep h2 hbw
     replace h3 := cell_keep h3 hbw
     have HC : Hid (∀ w2, Below wr.heap.size wr w2 → Calls Tryz.prog 76 #[.agg #[.int .i64 k1, .string s1, .int .i64 n1, .slice ao1 len1 cap1], .int .i64 (deep : Int), .pointer (some ⟨g, 0, none⟩)] w2 (RwPost w2 g l (ks[j].right (41 - deep) && decide (ks[j].n ≤ l)) ks[j].n)) := fun w2 hb2 =>
       HKS.out ks[j] (List.getElem_mem hlt) w0 w2 _ deep l g ht (hbw.trans (hb2.mono hbw.size)) hg (HLA.out.keep hb2) hd (by have := HN.out; omega)
     clear hin ht hbw HR HKS
     have HW : Hid (ns (ks.take (j + 1)) = ns (ks.take j) + ks[j].n) := by
       show _ = _
       rw [List.take_succ_eq_append_getElem hlt, ns_append]; simp [ns, Tm.n.ns]
     cases hR : (ks[j].right (41 - deep) && decide (ks[j].n ≤ l)) with
     | true =>
       rw [hR] at HC
       rw [Bool.and_eq_true, decide_eq_true_iff] at hR
       have HRT' : Hid (rights (ks.take (j + 1)) (41 - deep) = true) := rights_take hlt HRT.out hR.1
       clear HRT hR HL
       go_wp2_with (go_at_call 76; refine (Calls.mono (HC.out _ ((Below.refl _ _).alloc (Nat.le_refl _) _)) ?_); rintro e w1 ⟨l1, rfl, hb, hl1, hle1, hlq⟩; have HB1 : Hid (Bar g w w1) := HB.out.trans ((Bar.of_below ((Below.refl _ _).alloc (Nat.le_refl _) _)).trans hb); have HL1 : Hid (LeftAt w1 g l1) := hl1; have HQ : Hid (l1 + ks[j].n = l) := hlq rfl; clear hb hl1 hlq)
       go_roundw
       case rel => exact ⟨HB1.out, j + 1, l1, by omega, by go_num, HL1.out, HRT'.out, by show _ = _; have := HN.out; have := HW.out; have := HQ.out; omega⟩
       case measure => simp [intOf]; omega
     | false =>
       rw [hR] at HC
       have HF : Hid ((rights ks (41 - deep) && decide (ns ks ≤ left)) = false) := by
         show _ = _
         rw [Bool.and_eq_false_iff] at *
         rcases hR with hR | hR
         · exact Or.inl (rights_no hlt hR)
         · right
           rw [decide_eq_false_iff_not] at *
           have h1 := HN.out
           have h2 := HW.out
           have h3 := ns_take_le ks (j + 1)
           omega
       have hll : l ≤ left := by have := HN.out; omega
       clear HRT hR HL HN HW
       go_wp2_with (go_at_call 76; refine (Calls.mono (HC.out _ ((Below.refl _ _).alloc (Nat.le_refl _) _)) ?_); rintro e w1 ⟨l1, rfl, hb, hl1, hle1, hlq⟩; have HB1 : Hid (Bar g w w1) := HB.out.trans ((Bar.of_below ((Below.refl _ _).alloc (Nat.le_refl _) _)).trans hb); have HL1 : Hid (LeftAt w1 g l1) := hl1; clear hb hl1 hlq)
       go_ret
       exact ⟨l1, by rw [HF.out]; rfl, HB1.out, HL1.out, by omega, by rw [HF.out]; simp⟩
   · have HF : Hid ((rights ks (41 - deep) && decide (ns ks ≤ left)) = true) := by
       show _ = _
       have h1 := HRT.out
       have h2 := HN.out
       rw [List.take_of_length_le (by omega)] at h1 h2
       rw [h1, decide_eq_true (by omega)]; rfl
     have HN' : Hid (l + ns ks = left) := by
       show _ = _
       have h2 := HN.out
       rw [List.take_of_length_le (by omega)] at h2
       exact h2
     clear HRT HL HN HR HKS
     go_wp2
     go_ret
     exact ⟨l, by rw [HF.out]; rfl, HB.out, HLA.out, by have := HN'.out; omega, fun _ => HN'.out⟩
theorem form_cases (k : Int) (s : ByteArray) (n : Int) (ao : Option Addr) (l cap : Nat) :
   (formV k s n ao l cap = .iface 121 (.agg #[.int .i64 n]) ∧ oneT k s n l = decide (0 ≤ n ∧ n ≤ 99999) ∧ l = 0) ∨
   (formV k s n ao l cap = .iface 122 (.agg #[.int .i64 n]) ∧ oneT k s n l = decide (-999999999 ≤ n ∧ n ≤ 999999999) ∧ l = 0) ∨
   (formV k s n ao l cap = .iface 124 (.agg #[.string s]) ∧ oneT k s n l = nameOk s ∧ l = 0) ∨
   (formV k s n ao l cap = .iface 110 (.agg #[.string s, .slice ao l cap]) ∧ oneT k s n l = (nameOk s && decide (1 ≤ l ∧ l ≤ 5))) ∨
   (formV k s n ao l cap = .iface 125 (.agg #[]) ∧ oneT k s n l = false) := by
 by_cases h1 : k = 1
 · subst h1
   by_cases h : s.size = 0 ∧ l = 0
   · left; simp [formV, oneT, h]
   · right; right; right; right
     refine ⟨by simp only [formV]; rw [if_neg (by omega), if_neg (by omega), if_neg (by omega), if_neg (by omega)], ?_⟩
     simp only [oneT]
     by_cases h5 : s.size = 0
     · have h6 : l ≠ 0 := fun h6 => h ⟨h5, h6⟩
       simp [h6]
     · simp [h5]
 by_cases h3 : k = 3
 · subst h3
   by_cases h : s.size = 0 ∧ l = 0
   · right; left; simp [formV, oneT, h]
   · right; right; right; right
     refine ⟨by simp only [formV]; rw [if_neg (by omega), if_neg (by omega), if_neg (by omega), if_neg (by omega)], ?_⟩
     simp only [oneT]
     by_cases h5 : s.size = 0
     · have h6 : l ≠ 0 := fun h6 => h ⟨h5, h6⟩
       simp [h6]
     · simp [h5]
 by_cases h2 : k = 2
 · subst h2
   by_cases h : n = 0 ∧ l = 0
   · right; right; left; simp [formV, oneT, h]
   · right; right; right; right; simp [formV, oneT, h]
     intro _ h3; exact fun h4 => h ⟨h3, h4⟩
 by_cases h4 : k = 4
 · subst h4
   by_cases h : n = 0
   · right; right; right; left; simp [formV, oneT, h]
   · right; right; right; right; simp [formV, oneT, h]
 right; right; right; right; simp [formV, oneT, h1, h2, h3, h4]
set_option maxHeartbeats 4000000 in
set_option maxRecDepth 20000 in
theorem right_within (t : Tm) : RwOk t := by
 refine tm_ind (p := RwOk) ?_ t
 clear t
 intro k s n ks hks w0 w v deep left g hin hb0 hg hl hd hle
 unfold TmIn at hin
 obtain ⟨ao, cap, rfl, hk, hn, hs, hlen, hcap, hrow⟩ := hin
 obtain ⟨W, hW⟩ : ∃ W, W = w.alloc (.cells #[.int .i64 k, .string s, .int .i64 n, .slice ao ks.length cap] 24) := ⟨_, rfl⟩
 have hbW : Below w.heap.size w W := by rw [hW]; exact (Below.refl _ _).alloc (Nat.le_refl _) _
 have hlW : LeftAt W g left := hl.keep hbW
 obtain ⟨glt, gc, gf⟩ := hlW
 rw [hW] at glt gc gf
 by_cases h0 : deep = 0
 · subst h0
   have HF : Hid (((Tm.mk k s n ks).right (41 - 0) && decide ((Tm.mk k s n ks).n ≤ left)) = false) := by
     show _ = _
     rw [right_mk]; simp
   have HL : Hid _ := hl.keep hbW
   have HB : Hid _ := hbW
   clear hks hrow hl hbW
   go_enter Tryz.func76, Tryz.ntmps76
   go_wp2
   go_ret
   exact ⟨left, by rw [HF.out]; rfl, by rw [← hW]; exact Bar.of_below HB.out, by rw [← hW]; exact HL.out, by omega, by rw [HF.out]; simp⟩
 have e0 : ((deep : Int) == 0) = false := beq_eq_false_iff_ne.2 (by omega)
 by_cases h1 : left = 0
 · subst h1
   have HF : Hid (((Tm.mk k s n ks).right (41 - deep) && decide ((Tm.mk k s n ks).n ≤ 0)) = false) := by
     show _ = _
     rw [n_mk]; simp
   have HL : Hid _ := hl.keep hbW
   have HB : Hid _ := hbW
   clear hks hrow hl hbW
   go_enter Tryz.func76, Tryz.ntmps76
   go_wp2
   go_ret
   exact ⟨0, by rw [HF.out]; rfl, by rw [← hW]; exact Bar.of_below HB.out, by rw [← hW]; exact HL.out, by omega, by rw [HF.out]; simp⟩
 have e1 : ((left : Int) == 0) = false := beq_eq_false_iff_ne.2 (by omega)
 have HFM := implForm k s n ao ks.length cap (by omega)
 obtain ⟨W1, hW1⟩ : ∃ W1, W1 = (w.alloc (.cells #[.int .i64 k, .string s, .int .i64 n, .slice ao ks.length cap] 24)).setCell ⟨g, 0, none⟩ (.int .i64 ((left : Int) - 1)) := ⟨_, rfl⟩
 have hblk : (w.alloc (.cells #[.int .i64 k, .string s, .int .i64 n, .slice ao ks.length cap] 24)).heap[w.heap.size]? = some (.cells #[.int .i64 k, .string s, .int .i64 n, .slice ao ks.length cap] 24 (0, 0)) := alloc_at _ _ rfl
 have hne : ∀ i, (⟨g, 0, none⟩ : Addr) ≠ ⟨w.heap.size, i, none⟩ := fun i e => by have := hl.lt; cases e; omega
 have d0 : ((w.alloc (.cells #[.int .i64 k, .string s, .int .i64 n, .slice ao ks.length cap] 24)).setCell ⟨g, 0, none⟩ (.int .i64 ((left : Int) - 1))).cell? ⟨w.heap.size, 0, none⟩ = some (.int .i64 k) := by
   rw [World.cell?_setCell_other _ _ _ _ (hne 0)]; exact blk_cell (i := 0) hblk (by simp)
 have d1 : ((w.alloc (.cells #[.int .i64 k, .string s, .int .i64 n, .slice ao ks.length cap] 24)).setCell ⟨g, 0, none⟩ (.int .i64 ((left : Int) - 1))).cell? ⟨w.heap.size, 1, none⟩ = some (.string s) := by
   rw [World.cell?_setCell_other _ _ _ _ (hne 1)]; exact blk_cell (i := 1) hblk (by simp)
 have d2 : ((w.alloc (.cells #[.int .i64 k, .string s, .int .i64 n, .slice ao ks.length cap] 24)).setCell ⟨g, 0, none⟩ (.int .i64 ((left : Int) - 1))).cell? ⟨w.heap.size, 2, none⟩ = some (.int .i64 n) := by
   rw [World.cell?_setCell_other _ _ _ _ (hne 2)]; exact blk_cell (i := 2) hblk (by simp)
 have d3 : ((w.alloc (.cells #[.int .i64 k, .string s, .int .i64 n, .slice ao ks.length cap] 24)).setCell ⟨g, 0, none⟩ (.int .i64 ((left : Int) - 1))).cell? ⟨w.heap.size, 3, none⟩ = some (.slice ao ks.length cap) := by
   rw [World.cell?_setCell_other _ _ _ _ (hne 3)]; exact blk_cell (i := 3) hblk (by simp)
 have HB1 : Hid (Bar g w W1) := by rw [hW1, ← hW]; exact (Bar.of_below hbW).trans (Bar.set _ _ _ _)
 have HL1 : Hid (LeftAt W1 g (left - 1)) := by
   have := (hl.keep hbW).set (left - 1)
   rw [show ((left - 1 : Nat) : Int) = (left : Int) - 1 by omega] at this
   rw [hW1, ← hW]; exact this
 clear hblk hne
 rcases form_cases k s n ao ks.length cap with ⟨hf, ho, hz⟩ | ⟨hf, ho, hz⟩ | ⟨hf, ho, hz⟩ | ⟨hf, ho⟩ | ⟨hf, ho⟩
 · rw [hf] at HFM
   replace HFM : Hid _ := HFM
   have hke : ks = [] := List.eq_nil_of_length_eq_zero hz
   have HV : Hid (((Tm.mk k s n ks).right (41 - deep) && decide ((Tm.mk k s n ks).n ≤ left)) = decide (0 ≤ n ∧ n ≤ 99999)) := by
     show _ = _
     rw [right_mk, n_mk, ho, hke, decide_eq_true (by omega), decide_eq_true (show 1 + ns [] ≤ left from (show 1 + 0 ≤ left by omega))]
     simp [rights, Tm.right.rights]
   have HN1 : Hid ((Tm.mk k s n ks).n = 1) := by
     show _ = _
     rw [n_mk, hke]; rfl
   clear hks hrow hl hbW hb0 hf hz ho hke
   go_enter Tryz.func76, Tryz.ntmps76
   go_wp2_with (go_at_call 96; refine (Calls.mono (HFM.out _) ?_); rintro e w1 ⟨rfl, hb⟩; rw [← hW1] at hb; have HL2 : Hid (LeftAt w1 g (left - 1)) := HL1.out.keep hb; have HB2 : Hid (Bar g w w1) := HB1.out.trans (Bar.of_below hb); clear hb)
   go_at_call 122
   refine (Calls.mono (rightVar n w1) ?_)
   rintro e w2 ⟨rfl, hb⟩
   have HL3 : Hid (LeftAt w2 g (left - 1)) := HL2.out.keep hb
   have HB3 : Hid (Bar g w w2) := HB2.out.trans (Bar.of_below hb)
   clear hb
   go_wp2
   go_ret
   exact ⟨left - 1, by rw [HV.out, Bool.decide_and]; rfl, HB3.out, HL3.out, by omega, fun _ => by have := HN1.out; omega⟩
 · rw [hf] at HFM
   replace HFM : Hid _ := HFM
   have hke : ks = [] := List.eq_nil_of_length_eq_zero hz
   have HV : Hid (((Tm.mk k s n ks).right (41 - deep) && decide ((Tm.mk k s n ks).n ≤ left)) = decide (-999999999 ≤ n ∧ n ≤ 999999999)) := by
     show _ = _
     rw [right_mk, n_mk, ho, hke, decide_eq_true (by omega), decide_eq_true (show 1 + ns [] ≤ left from (show 1 + 0 ≤ left by omega))]
     simp [rights, Tm.right.rights]
   have HN1 : Hid ((Tm.mk k s n ks).n = 1) := by
     show _ = _
     rw [n_mk, hke]; rfl
   clear hks hrow hl hbW hb0 hf hz ho hke
   go_enter Tryz.func76, Tryz.ntmps76
   go_wp2_with (go_at_call 96; refine (Calls.mono (HFM.out _) ?_); rintro e w1 ⟨rfl, hb⟩; rw [← hW1] at hb; have HL2 : Hid (LeftAt w1 g (left - 1)) := HL1.out.keep hb; have HB2 : Hid (Bar g w w1) := HB1.out.trans (Bar.of_below hb); clear hb)
   go_at_call 124
   refine (Calls.mono (rightInt n w1) ?_)
   rintro e w2 ⟨rfl, hb⟩
   have HL3 : Hid (LeftAt w2 g (left - 1)) := HL2.out.keep hb
   have HB3 : Hid (Bar g w w2) := HB2.out.trans (Bar.of_below hb)
   clear hb
   go_wp2
   go_ret
   exact ⟨left - 1, by rw [HV.out, Bool.decide_and]; rfl, HB3.out, HL3.out, by omega, fun _ => by have := HN1.out; omega⟩
 · rw [hf] at HFM
   replace HFM : Hid _ := HFM
   have hke : ks = [] := List.eq_nil_of_length_eq_zero hz
   have HV : Hid (((Tm.mk k s n ks).right (41 - deep) && decide ((Tm.mk k s n ks).n ≤ left)) = nameOk s) := by
     show _ = _
     rw [right_mk, n_mk, ho, hke, decide_eq_true (by omega), decide_eq_true (show 1 + ns [] ≤ left from (show 1 + 0 ≤ left by omega))]
     simp [rights, Tm.right.rights]
   have HN1 : Hid ((Tm.mk k s n ks).n = 1) := by
     show _ = _
     rw [n_mk, hke]; rfl
   clear hks hrow hl hbW hb0 hf hz ho hke
   go_enter Tryz.func76, Tryz.ntmps76
   go_wp2_with (go_at_call 96; refine (Calls.mono (HFM.out _) ?_); rintro e w1 ⟨rfl, hb⟩; rw [← hW1] at hb; have HL2 : Hid (LeftAt w1 g (left - 1)) := HL1.out.keep hb; have HB2 : Hid (Bar g w w1) := HB1.out.trans (Bar.of_below hb); clear hb)
   go_at_call 126
   refine (Calls.mono (rightAtom s hs w1) ?_)
   rintro e w2 ⟨rfl, hb⟩
   have HL3 : Hid (LeftAt w2 g (left - 1)) := HL2.out.keep hb
   have HB3 : Hid (Bar g w w2) := HB2.out.trans (Bar.of_below hb)
   clear hb
   go_wp2
   go_ret
   exact ⟨left - 1, by rw [HV.out]; rfl, HB3.out, HL3.out, by omega, fun _ => by have := HN1.out; omega⟩
 · rw [hf] at HFM
   replace HFM : Hid _ := HFM
   have HS := rightStruct s hs ao ks.length cap (by omega)
   cases hR : (nameOk s && decide (1 ≤ ks.length ∧ ks.length ≤ 5)) with
   | false =>
     rw [hR] at HS ho
     replace HS : Hid _ := HS
     have HV : Hid (((Tm.mk k s n ks).right (41 - deep) && decide ((Tm.mk k s n ks).n ≤ left)) = false) := by
       show _ = _
       rw [right_mk, ho]; simp
     clear hks hrow hl hbW hb0 hf ho
     go_enter Tryz.func76, Tryz.ntmps76
     go_wp2_with (first | (go_at_call 96; refine (Calls.mono (HFM.out _) ?_); rintro e w1 ⟨rfl, hb⟩; rw [← hW1] at hb; have HL2 : Hid (LeftAt w1 g (left - 1)) := HL1.out.keep hb; have HB2 : Hid (Bar g w w1) := HB1.out.trans (Bar.of_below hb); clear hb) | fail)
     have hb2 : Below w1.heap.size w1 (w1.alloc (.cells #[.string s, .slice ao ks.length cap] 110)) := (Below.refl _ _).alloc (Nat.le_refl _) _
     go_at_call 97
     refine (Calls.mono (HS.out _) ?_)
     rintro e w2 ⟨rfl, hb⟩
     replace hb2 := hb2.trans (hb.mono hb2.size)
     have HL3 : Hid (LeftAt w2 g (left - 1)) := HL2.out.keep hb2
     have HB3 : Hid (Bar g w w2) := HB2.out.trans (Bar.of_below hb2)
     clear hb hb2
     go_wp2
     go_ret
     exact ⟨left - 1, by rw [HV.out]; rfl, HB3.out, HL3.out, by omega, by rw [HV.out]; simp⟩
   | true =>
     rw [hR] at HS ho
     replace HS : Hid _ := HS
     have HV : Hid (((Tm.mk k s n ks).right (41 - deep) && decide ((Tm.mk k s n ks).n ≤ left)) = (rights ks (41 - (deep - 1)) && decide (ns ks ≤ left - 1))) := by
       show _ = _
       rw [right_mk, n_mk, ho, decide_eq_true (show 41 - deep ≤ 40 by omega), Bool.true_and, Bool.true_and, show 41 - (deep - 1) = 41 - deep + 1 by omega]
       congr 1
       exact decide_eq_decide.2 (by omega)
     have HN1 : Hid ((Tm.mk k s n ks).n = 1 + ns ks) := n_mk _ _ _ _
     have HAL : Hid (∀ w2, Bar g w w2 → LeftAt w2 g (left - 1) → Calls Tryz.prog 98 #[.slice ao ks.length cap, .int .i64 ((deep : Int) - 1), .pointer (some ⟨g, 0, none⟩)] w2 (RwPost w2 g (left - 1) (rights ks (41 - (deep - 1)) && decide (ns ks ≤ left - 1)) (ns ks))) := fun w2 hb hl2 => by
       have := all_right ks hks w0 w2 ao cap (deep - 1) (left - 1) g hrow hlen hcap (hb0.trans (hb.below hg hb0.size)) hg hl2 (by omega) (by omega)
       rwa [show ((deep - 1 : Nat) : Int) = (deep : Int) - 1 by omega] at this
     obtain ⟨R, hRR⟩ : ∃ R, R = (rights ks (41 - (deep - 1)) && decide (ns ks ≤ left - 1)) := ⟨_, rfl⟩
     rw [← hRR] at HV HAL
     clear hks hrow hl hbW hb0 hf ho hRR
     go_enter Tryz.func76, Tryz.ntmps76
     go_wp2_with (first | (go_at_call 96; refine (Calls.mono (HFM.out _) ?_); rintro e w1 ⟨rfl, hb⟩; rw [← hW1] at hb; have HL2 : Hid (LeftAt w1 g (left - 1)) := HL1.out.keep hb; have HB2 : Hid (Bar g w w1) := HB1.out.trans (Bar.of_below hb); clear hb) | fail)
     have hb2 : Below w1.heap.size w1 (w1.alloc (.cells #[.string s, .slice ao ks.length cap] 110)) := (Below.refl _ _).alloc (Nat.le_refl _) _
     have hblk : (w1.alloc (.cells #[.string s, .slice ao ks.length cap] 110)).heap[w1.heap.size]? = some (.cells #[.string s, .slice ao ks.length cap] 110 (0, 0)) := alloc_at _ _ rfl
     go_at_call 97
     refine (Calls.mono (HS.out _) ?_)
     rintro e w2 ⟨rfl, hb⟩
     have cs : w2.cell? ⟨w1.heap.size, 1, none⟩ = some (.slice ao ks.length cap) := blk_cell (i := 1) ((hb.block _ (by simp)).trans hblk) (by simp)
     replace hb2 := hb2.trans (hb.mono hb2.size)
     have HL3 : Hid (LeftAt w2 g (left - 1)) := HL2.out.keep hb2
     have HB3 : Hid (Bar g w w2) := HB2.out.trans (Bar.of_below hb2)
     clear hb hb2 hblk
     go_wp2_with (go_at_call 98; refine (Calls.mono (HAL.out _ HB3.out HL3.out) ?_); rintro e w3 ⟨l3, rfl, hb, hl3, hle3, hq⟩; have HB4 : Hid (Bar g w w3) := HB3.out.trans hb; have HL4 : Hid _ := hl3; have HQ : Hid _ := hq; clear hb hl3 hq)
     go_ret
     exact ⟨l3, by rw [HV.out]; rfl, HB4.out, HL4.out, by omega, fun h => by rw [HV.out] at h; have := HQ.out h; have := HN1.out; omega⟩
 · rw [hf] at HFM
   replace HFM : Hid _ := HFM
   have HV : Hid (((Tm.mk k s n ks).right (41 - deep) && decide ((Tm.mk k s n ks).n ≤ left)) = false) := by
     show _ = _
     rw [right_mk, ho]; simp
   clear hks hrow hl hbW hb0 hf ho
   go_enter Tryz.func76, Tryz.ntmps76
   go_wp2_with (go_at_call 96; refine (Calls.mono (HFM.out _) ?_); rintro e w1 ⟨rfl, hb⟩; rw [← hW1] at hb; have HL2 : Hid (LeftAt w1 g (left - 1)) := HL1.out.keep hb; have HB2 : Hid (Bar g w w1) := HB1.out.trans (Bar.of_below hb); clear hb)
   go_at_call 128
   refine (Calls.mono (rightNo w1) ?_)
   rintro e w2 ⟨rfl, hb⟩
   have HL3 : Hid (LeftAt w2 g (left - 1)) := HL2.out.keep hb
   have HB3 : Hid (Bar g w w2) := HB2.out.trans (Bar.of_below hb)
   clear hb
   go_wp2
   go_ret
   exact ⟨left - 1, by rw [HV.out]; rfl, HB3.out, HL3.out, by omega, by rw [HV.out]; simp⟩
set_option maxRecDepth 20000 in
theorem implOk (t : Tm) (w : World) (v : Value) (h : TmIn w t v) :
   Calls Tryz.prog 57 #[v] w fun e w' => e = .returned (.bool t.ok) ∧ Below w.heap.size w w' := by
 obtain ⟨k, s, n, ao, len, cap, rfl⟩ := tm_shape h
 obtain ⟨W, hW⟩ : ∃ W, W = w.alloc (.cells #[.int .i64 k, .string s, .int .i64 n, .slice ao len cap] 24) := ⟨_, rfl⟩
 have hbW : Below w.heap.size w W := by rw [hW]; exact (Below.refl _ _).alloc (Nat.le_refl _) _
 have hblk : W.heap[w.heap.size]? = some (.cells #[.int .i64 k, .string s, .int .i64 n, .slice ao len cap] 24 (0, 0)) := by rw [hW]; exact alloc_at _ _ rfl
 obtain ⟨W1, hW1⟩ : ∃ W1, W1 = W.alloc (.cells #[.int .i64 400] 3) := ⟨_, rfl⟩
 have hbW1 : Below W.heap.size W W1 := by rw [hW1]; exact (Below.refl _ _).alloc (Nat.le_refl _) _
 have hblk1 : W1.heap[W.heap.size]? = some (.cells #[.int .i64 400] 3 (0, 0)) := by rw [hW1]; exact alloc_at _ _ rfl
 have hwW : w.heap.size < W.heap.size := by rw [hW]; simp
 have hl : LeftAt W1 W.heap.size 400 := ⟨by rw [hW1]; simp, blk_cell (i := 0) hblk1 (by simp), by rw [hW1]; simp⟩
 have hsz : W.heap.size = w.heap.size + 1 := by rw [hW]; simp
 have HC := right_within t w W1 _ 40 400 W.heap.size h (hbW.trans (hbW1.mono hbW.size)) (by omega) hl (by omega) (by omega)
 have HB : Hid (Below w.heap.size w W1) := hbW.trans (hbW1.mono hbW.size)
 have HOK : Hid ((t.right (41 - 40) && decide (t.n ≤ 400)) = t.ok) := by
   show _ = _
   unfold Tm.ok
   rw [Bool.and_comm]
 rw [HOK.out] at HC
 rw [hW1, hW] at HC
 have hsz2 : W1.heap.size = w.heap.size + 2 := by rw [hW1]; simp [hsz]
 rw [show (w.alloc (.cells #[.int .i64 k, .string s, .int .i64 n, .slice ao len cap] 24)).heap.size = w.heap.size + 1 by simp] at HC
 replace HC : Hid _ := HC
 clear h hl hblk hblk1 hbW hbW1 HOK
 go_enter Tryz.func57, Tryz.ntmps57
 go_wp2_with (go_at_call 76; refine (Calls.mono HC.out ?_); rintro e w1 ⟨l3, rfl, hb, hl3, hle3, hq⟩; rw [← hW, ← hW1] at hb; have HB1 : Hid (Below w.heap.size w w1) := HB.out.trans (hb.below (by omega) (by omega)); clear hb hl3 hq)
 go_ret
 exact ⟨rfl, HB1.out⟩
end Go.Proofs.YtbkjcccbjnehbanGreatDoor

namespace Go.Proofs.YtbkjcccbjnehbanGreatDoor
open Go.RowKit
namespace FG
def dst? (ops : Array Oper) (i : Nat) : Option Nat := (ops[i]?).bind (·.dst)
def valAt (ops : Array Oper) (a : Act) (i : Nat) : Value := match dst? ops i with | some d => a.tmps.getD d undef | none => undef
def factsB (ops : Array Oper) (n : Nat) : Bool :=
 decide (n ≤ ops.size) && (decide (n = ops.size) || Region.sinkB .any ops n) && Region.chainB .any ops n && Region.seqB .any ops (ops.size - n) n (firstN ops.size n) &&
 (List.range n).all (fun i => match ops[i]? with | some o => o.after.all (fun e => !Region.binds .any e || decide (e.on < i)) && ((List.range i).all fun j => o.dst.isNone || dst? ops j != o.dst) | none => false)
structure FrameAt (ops : Array Oper) (n : Nat) (a0 a : Act) : Prop where
 size : a.tmps.size = a0.tmps.size
 defers : a.defers = a0.defers
 same : ∀ s, (∀ i, i < n → dst? ops i ≠ some s) → a.tmps.getD s undef = a0.tmps.getD s undef
def putN (ops : Array Oper) (a0 : Act) (vals : Nat → Value) : Nat → Act
 | 0 => a0
 | k + 1 => (putN ops a0 vals k).put ((ops[k]?).bind (·.dst)) (vals k)
section
variable {P : Program} {ops : Array Oper} {Q : Exit → Act → World → Prop} {n : Nat}
theorem put_get2 {a : Act} {o : Option Nat} {s : Nat} {v : Value} (hd : ∀ d, o = some d → d < a.tmps.size) : (a.put o v).tmps.getD s undef = if o = some s then v else a.tmps.getD s undef := by
 cases o with
 | none => simp [Act.put]
 | some d =>
   rw [put_getD (hd d rfl)]
   by_cases h : d = s
   · subst h; simp
   · rw [if_neg h, if_neg (fun e => h (Option.some.inj e))]
theorem put_size2 {a : Act} {o : Option Nat} {v : Value} : (a.put o v).tmps.size = a.tmps.size := by cases o <;> simp [Act.put]
theorem put_defers2 {a : Act} {o : Option Nat} {v : Value} : (a.put o v).defers = a.defers := by cases o <;> rfl
structure FactsOk (ops : Array Oper) (n : Nat) : Prop where
 lt : n ≤ ops.size
 sink : n < ops.size → Region.sinkB .any ops n = true
 chain : Region.chainB .any ops n = true
 seq : Region.seqB .any ops (ops.size - n) n (firstN ops.size n) = true
 ops : ∀ i, i < n → ∃ o, ops[i]? = some o ∧ dst? ops i = o.dst ∧ (∀ e ∈ o.after, Region.binds .any e = true → e.on < i) ∧ ∀ j, j < i → ∀ d, o.dst = some d → dst? ops j ≠ some d
theorem factsOk_of (h : factsB ops n = true) : FactsOk ops n := by
 unfold factsB at h
 simp only [Bool.and_eq_true, decide_eq_true_eq] at h
 obtain ⟨⟨⟨⟨h1, h2⟩, h3⟩, h4⟩, h5⟩ := h
 refine ⟨h1, fun hlt => (by rw [decide_eq_false (by omega), Bool.false_or] at h2; exact h2), h3, h4, fun i hi => ?_⟩
 have h6 := List.all_eq_true.1 h5 i (by simpa using hi)
 cases ho : ops[i]? with
 | none => rw [ho] at h6; cases h6
 | some o =>
   rw [ho] at h6
   simp only [Bool.and_eq_true] at h6
   obtain ⟨h9, h10⟩ := h6
   refine ⟨o, rfl, by unfold dst?; rw [ho]; rfl, fun e he hb => ?_, fun j hj d hd => ?_⟩
   · obtain ⟨q, hq, rfl⟩ := Array.mem_iff_getElem.1 he
     have := Array.all_eq_true.1 h9 q hq
     rw [hb] at this
     simpa using this
   · have := List.all_eq_true.1 h10 j (by simpa using hj)
     rw [hd] at this
     simpa using this
theorem putN_at (hf : FactsOk ops n) {a0 : Act} (hsz : ∀ i d, i < n → dst? ops i = some d → d < a0.tmps.size) (vals : Nat → Value) : ∀ k, k ≤ n →
   (putN ops a0 vals k).tmps.size = a0.tmps.size ∧ (putN ops a0 vals k).defers = a0.defers ∧ (∀ i d, i < k → dst? ops i = some d → (putN ops a0 vals k).tmps.getD d undef = vals i) ∧ ∀ s, (∀ i, i < k → dst? ops i ≠ some s) → (putN ops a0 vals k).tmps.getD s undef = a0.tmps.getD s undef
 | 0, _ => ⟨rfl, rfl, fun i _ hi => absurd hi (Nat.not_lt_zero _), fun _ _ => rfl⟩
 | k + 1, hk => by
   obtain ⟨h1, h2, h3, h4⟩ := putN_at hf hsz vals k (by omega)
   obtain ⟨o, ho, hdd, _, hne⟩ := hf.ops k (by omega)
   have e : putN ops a0 vals (k + 1) = (putN ops a0 vals k).put o.dst (vals k) := by
     show (putN ops a0 vals k).put ((ops[k]?).bind (·.dst)) (vals k) = _
     rw [ho]; rfl
   have hb : ∀ d, o.dst = some d → d < (putN ops a0 vals k).tmps.size := fun d hd => by rw [h1]; exact hsz k d (by omega) (by rw [hdd]; exact hd)
   rw [e]
   refine ⟨by rw [put_size2]; exact h1, by rw [put_defers2]; exact h2, fun i d hi hd => ?_, fun s hs => ?_⟩
   · rw [put_get2 hb]
     by_cases hik : i = k
     · subst hik; rw [if_pos (by rw [← hdd]; exact hd)]
     · rw [if_neg (fun e => hne i (by omega) d e hd)]
       exact h3 i d (by omega) hd
   · rw [put_get2 hb, if_neg (fun e => hs k (by omega) (by rw [hdd]; exact e))]
     exact h4 s fun i hi => hs i (by omega)
theorem frame_putN (hf : FactsOk ops n) {a0 a : Act} (hsz : ∀ i d, i < n → dst? ops i = some d → d < a0.tmps.size) (h : FrameAt ops n a0 a) : a = putN ops a0 (valAt ops a) n := by
 obtain ⟨h1, h2, h3, h4⟩ := putN_at hf hsz (valAt ops a) n (Nat.le_refl _)
 have hv : ∀ i d, dst? ops i = some d → valAt ops a i = a.tmps.getD d undef := fun i d hd => by unfold valAt; rw [hd]
 generalize putN ops a0 (valAt ops a) n = b at *
 have hg : ∀ s, a.tmps.getD s undef = b.tmps.getD s undef := fun s => by
   by_cases hs : ∃ i, i < n ∧ dst? ops i = some s
   · obtain ⟨i, hi, hd⟩ := hs
     rw [h3 i s hi hd, hv i s hd]
   · have hs' : ∀ i, i < n → dst? ops i ≠ some s := fun i hi e => hs ⟨i, hi, e⟩
     rw [h.same s hs', h4 s hs']
 obtain ⟨at', ad⟩ := a
 obtain ⟨bt, bd⟩ := b
 have e2 : ad = bd := h.defers.trans h2.symm
 have e1 : at' = bt := by
   apply Array.ext
   · exact h.size.trans h1.symm
   · intro i hi1 hi2
     have := hg i
     simpa [Array.getD, hi1, hi2] using this
 subst e1 e2
 rfl
def Closed (ops : Array Oper) (L : Nat → Bool) : Prop := ∀ i o, ops[i]? = some o → L i = true → ∀ j, waitsOn o j = true → L j = true
theorem closed_of {listed : Array Bool} (h : HeadInv .any ops n listed) : Closed ops fun i => listed.getD i false := fun i o ho hi j hj => by
 unfold waitsOn at hj
 obtain ⟨q, hq, he⟩ := Array.any_eq_true.1 hj
 simp only [Bool.and_eq_true, beq_iff_eq] at he
 have := h.closed i o ho hi _ (Array.getElem_mem hq) he.1
 rw [he.2] at this
 exact this
structure FInv (ops : Array Oper) (n : Nat) (φ : Nat → Value → World → Prop) (ψ : Nat → World → Prop) (a0 : Act) (listed : Array Bool) (a : Act) (w : World) : Prop where
 head : HeadInv .any ops n listed
 frame : FrameAt ops n a0 a
 facts : ∀ i, i < n → listed.getD i false = true → φ i (valAt ops a i) w
 pre : ∀ i, i < n → listed.getD i false = false → ψ i w
theorem facts_any {φ : Nat → Value → World → Prop} {ψ : Nat → World → Prop} {Rel : Nat → World → World → Prop} {a0 : Act} (hf : FactsOk ops n) (hsz : ∀ i d, i < n → dst? ops i = some d → d < a0.tmps.size)
   (stab : ∀ i j w w', i < n → j < n → j ≠ i → Rel j w w' → ((∃ L, Closed ops L ∧ L i = false ∧ L j = true) → ψ i w → ψ i w') ∧ ((∃ L, Closed ops L ∧ L i = true ∧ L j = false) → ∀ v, φ i v w → φ i v w'))
   (hop : ∀ i o, i < n → ops[i]? = some o → ∀ a w, ψ i w → FrameAt ops n a0 a → (∀ e ∈ o.after, Region.binds .any e = true → φ e.on (valAt ops a e.on) w) → (Region.wanted o (yielded ops a.tmps) = true → o.wp P a w (fun a' w' => ∃ v, a' = a.put o.dst v ∧ (o.dst = none → v = undef) ∧ Rel i w w' ∧ φ i v w') Q) ∧ (Region.wanted o (yielded ops a.tmps) = false → Rel i w w ∧ φ i undef w))
   (l : List Oper) (hl : ops = l.toArray)
   (hend : ∀ (vals : Nat → Value) w, (∀ i, i < n → φ i (vals i) w) → wpList P ops Q (l.drop n) (putN ops a0 vals n) w) :
   ∀ (f : Nat) (listed : Array Bool) (a : Act) (w : World), FInv ops n φ ψ a0 listed a w → listed.count true + f = n → wpAny P .any ops Q (f + (ops.size - n)) listed a w
 | 0, listed, a, w, h, hc => by
   have hlen : (l.drop n).length = ops.size - n := by rw [hl]; simp
   have hall : ∀ i, i < n → listed.getD i false = true := by
     intro i hi
     cases hq : listed.getD i false with
     | true => rfl
     | false =>
       exfalso
       have hlt : i < listed.size := by rw [h.head.size]; have := hf.lt; omega
       have h1 := count_set (getD_in hlt hq)
       have h2 : (listed.setIfInBounds i true).count true ≤ n := by
         have h3 : ∀ t, n ≤ t → t < ops.size → (listed.setIfInBounds i true).getD t true = false := fun t ht ht' => by rw [getD_set_ne true (by omega)]; exact h.head.tail t ht ht'
         have hsz2 : (listed.setIfInBounds i true).size = ops.size := by simp [h.head.size]
         generalize listed.setIfInBounds i true = L at *
         have e : L.toList = L.toList.take n ++ L.toList.drop n := (List.take_append_drop n _).symm
         rw [← Array.count_toList, e, List.count_append]
         have z : (L.toList.drop n).count true = 0 := by
           rw [List.count_eq_zero]
           intro hm
           obtain ⟨q, hq1, hq2⟩ := List.getElem_of_mem hm
           rw [List.length_drop, Array.length_toList] at hq1
           rw [List.getElem_drop] at hq2
           have := h3 (n + q) (by omega) (by omega)
           have hlt2 : n + q < L.size := by omega
           simp [hlt2] at this
           simp at hq2
           rw [hq2] at this
           cases this
         have z2 := List.count_le_length (a := true) (l := L.toList.take n)
         rw [List.length_take] at z2
         omega
       omega
   have hlst : listed = firstN ops.size n := by
     apply Array.ext
     · rw [h.head.size]; simp [firstN]
     · intro i h1 h2
       simp only [firstN, Array.getElem_ofFn]
       by_cases hi : i < n
       · have := hall i hi
         simpa [h1, hi] using this
       · have := h.head.tail i (by omega) (by rw [← h.head.size]; exact h1)
         simpa [h1, hi] using this
   have hw : wpList P ops Q (l.drop n) a w := by
     rw [frame_putN hf hsz h.frame]
     exact hend _ w (fun i hi => h.facts i hi (hall i hi))
   have := wpAny_of_seq (md := .any) (Q' := Q) (l.drop n) n listed a w (fun j => by rw [hl]; simp [List.getElem?_drop]) (by rw [hlen, hlst]; exact hf.seq) hw
   rw [hlen] at this
   rw [Nat.zero_add]
   exact this
 | f + 1, listed, a, w, h, hc => by
   rw [show f + 1 + (ops.size - n) = (f + (ops.size - n)) + 1 by omega]
   obtain ⟨i, hin, hiu⟩ : ∃ i, i < n ∧ listed.getD i true = false := by
     refine Classical.byContradiction fun hno => ?_
     have hall : ∀ i, i < n → listed.getD i false = true := fun i hi => by
       cases hq : listed.getD i false with
       | true => rfl
       | false => exact absurd ⟨i, hi, getD_in (by rw [h.head.size]; have := hf.lt; omega) hq⟩ hno
     have : n ≤ listed.count true := by
       have e : listed.toList = listed.toList.take n ++ listed.toList.drop n := (List.take_append_drop n _).symm
       rw [← Array.count_toList, e, List.count_append]
       have z : (listed.toList.take n).count true = (listed.toList.take n).length := by
         rw [List.count_eq_length]
         intro b hb
         obtain ⟨q, hq1, hq2⟩ := List.getElem_of_mem hb
         rw [List.length_take, Array.length_toList] at hq1
         rw [List.getElem_take] at hq2
         have := hall q (by omega)
         have hlt2 : q < listed.size := by omega
         simp [hlt2] at this
         simp at hq2
         rw [← hq2, this]
       rw [z, List.length_take, Array.length_toList, h.head.size]
       have := hf.lt
       omega
     omega
   have hleast : ∃ i, i < n ∧ listed.getD i true = false ∧ ∀ j, j < i → listed.getD j false = true := by
     induction i using Nat.strongRecOn with
     | ind i ih =>
       by_cases hj : ∃ j, j < i ∧ listed.getD j false = false
       · obtain ⟨j, hj1, hj2⟩ := hj
         exact ih j hj1 (by omega) (getD_in (by rw [h.head.size]; have := hf.lt; omega) hj2)
       · refine ⟨i, hin, hiu, fun j hji => ?_⟩
         cases hq : listed.getD j false with
         | true => rfl
         | false => exact absurd ⟨j, hji, hq⟩ hj
   obtain ⟨i0, h01, h02, h03⟩ := hleast
   obtain ⟨o0, ho0, _, haf0, _⟩ := hf.ops i0 h01
   have hr0 : i0 ∈ Region.ready .any ops listed := mem_ready.2 ⟨h02, o0, ho0, fun e he hb => h03 e.on (haf0 e he hb)⟩
   refine ⟨fun hn => (by rw [hn] at hr0; cases hr0), fun j hj => ?_⟩
   have hjn : j < n := by
     rcases Nat.lt_or_ge n ops.size with hlt | hge
     · exact Nat.lt_of_not_le fun hh => tail_waits (hf.sink hlt) hf.chain hlt h.head _ i0 rfl h01 h02 j hh hj
     · obtain ⟨_, oj0, hoj0, _⟩ := mem_ready.1 hj
       have := (Array.getElem?_eq_some_iff.1 hoj0).1
       omega
   obtain ⟨hju, oj', hoj', hjall⟩ := mem_ready.1 hj
   obtain ⟨oj, hoj, hdd, haf, hne0⟩ := hf.ops j hjn
   obtain rfl : oj' = oj := Option.some.inj (hoj'.symm.trans hoj)
   have hjf : listed.getD j false = false := by
     cases hq : listed.getD j false with
     | false => rfl
     | true =>
       exfalso
       have hlt : j < listed.size := by rw [h.head.size]; have := hf.lt; omega
       simp [hlt] at hq hju
       rw [hju] at hq; cases hq
   have hstep := hop j oj' hjn hoj a w (h.pre j hjn hjf) h.frame (fun e he hb => h.facts e.on (Nat.lt_trans (haf e he hb) hjn) (hjall e he hb))
   have hK : ∀ v w', (oj'.dst = none → v = undef) → Rel j w w' → φ j v w' → wpAny P .any ops Q (f + (ops.size - n)) (listed.setIfInBounds j true) (a.put oj'.dst v) w' := by
     intro v w' hvn hb hφ
     have hdlt : ∀ d, oj'.dst = some d → d < a.tmps.size := fun d hd => by rw [h.frame.size]; exact hsz j d hjn (by rw [hdd]; exact hd)
     have hls : ∀ k, j ≠ k → (listed.setIfInBounds j true).getD k false = true → listed.getD k false = true := fun k hk hl => by rwa [getD_set_ne false hk] at hl
     have hvj : valAt ops (a.put oj'.dst v) j = v := by
       unfold valAt
       rw [hdd]
       cases hd : oj'.dst with
       | none => exact (hvn hd).symm
       | some d => show (a.put (some d) v).tmps.getD d undef = v; rw [put_get2 (by rw [← hd]; exact hdlt), if_pos rfl]
     have hvk : ∀ k, k < n → j ≠ k → valAt ops (a.put oj'.dst v) k = valAt ops a k := fun k hk hjk => by
       unfold valAt
       cases hdk : dst? ops k with
       | none => rfl
       | some d =>
         show (a.put oj'.dst v).tmps.getD d undef = a.tmps.getD d undef
         rw [put_get2 hdlt, if_neg]
         intro e
         rcases Nat.lt_or_gt_of_ne hjk with hlt | hgt
         · obtain ⟨ok, _, hdk2, _, hne⟩ := hf.ops k hk
           exact hne j hlt d (by rw [← hdk2]; exact hdk) (by rw [hdd]; exact e)
         · exact hne0 k hgt d e hdk
     refine facts_any hf hsz stab hop l hl hend f _ _ _ ⟨h.head.set hj hjn, ⟨by rw [put_size2]; exact h.frame.size, by rw [put_defers2]; exact h.frame.defers, fun s hs => ?_⟩, fun k hk hkl => ?_, fun k hk hkl => ?_⟩ (by rw [count_set hju]; omega)
     · rw [put_get2 hdlt, if_neg (fun e => hs j hjn (by rw [hdd]; exact e))]
       exact h.frame.same s hs
     · by_cases hjk : j = k
       · subst hjk
         rw [hvj]
         exact hφ
       · rw [hvk k hk hjk]
         exact (stab k j _ _ hk hjn hjk hb).2 ⟨_, closed_of h.head, hls k hjk hkl, hjf⟩ _ (h.facts k hk (hls k hjk hkl))
     · have hjk : j ≠ k := by
         rintro rfl
         have hlt : j < listed.size := by rw [h.head.size]; have := hf.lt; omega
         simp [hlt] at hkl
       exact (stab k j _ _ hk hjn hjk hb).1 ⟨_, closed_of (h.head.set hj hjn), hkl, by
         have hlt : j < listed.size := by rw [h.head.size]; have := hf.lt; omega
         simp [hlt]⟩ (h.pre k hk (by rwa [getD_set_ne false hjk] at hkl))
   unfold wpOp
   rw [hoj]
   simp only
   cases hw : Region.wanted oj' (yielded ops a.tmps) with
   | true =>
     rw [if_pos rfl]
     refine Or.inl (Oper.wp_mono ?_ (hstep.1 hw))
     rintro a' w' ⟨v, rfl, hvn, hb, hφ⟩
     exact hK v w' hvn hb hφ
   | false =>
     rw [if_neg (by simp)]
     obtain ⟨hb, hφ⟩ := hstep.2 hw
     exact hK undef w (fun _ => rfl) hb hφ
end
theorem wanted_none {o : Oper} (hg : o.guard = none) (y : Nat → Option Bool) : Region.wanted o y = true := by unfold Region.wanted; rw [hg]
theorem wanted_some {o : Oper} {k d : Nat} {want b : Bool} (hg : o.guard = some (k, want)) {ops : Array Oper} {a : Act} (hd : dst? ops k = some d) (hv : a.tmps.getD d undef = .bool b) : Region.wanted o (yielded ops a.tmps) = (b == want) := by
 have hy : yielded ops a.tmps k = some b := by
   unfold yielded
   unfold dst? at hd
   rw [hd, Option.bind_some]
   cases h : a.tmps[d]? with
   | none => rw [Array.getD_eq_getD_getElem?, h] at hv; cases hv
   | some v => rw [Array.getD_eq_getD_getElem?, h] at hv; obtain rfl : v = .bool b := hv; rfl
 unfold Region.wanted
 rw [hg]
 simp only
 rw [hy]
 cases b <;> cases want <;> rfl
theorem plain {p q : Prop} {o : Oper} {y : Nat → Option Bool} (hg : o.guard = none) (h : p) : (Region.wanted o y = true → p) ∧ (Region.wanted o y = false → q) :=
 ⟨fun _ => h, fun e => by rw [wanted_none hg] at e; cases e⟩
theorem wp_region_factsG {P : Program} {Q : Exit → Act → World → Prop} {id : Nat} {a0 : Act} {w : World} {l : List Oper} (n : Nat) (φ : Nat → Value → World → Prop) (ψ : Nat → World → Prop) (Rel : Nat → World → World → Prop) (hm : P.follows .mixedOrders = true) (hB : factsB l.toArray n = true)
   (N : Nat) (hN : a0.tmps.size = N) (hD : ((List.range n).all fun i => match dst? l.toArray i with | some d => decide (d < N) | none => true) = true)
   (start : ∀ i, i < n → ψ i w.drew)
   (stab : ∀ i j w w', i < n → j < n → j ≠ i → Rel j w w' → ((∃ L, Closed l.toArray L ∧ L i = false ∧ L j = true) → ψ i w → ψ i w') ∧ ((∃ L, Closed l.toArray L ∧ L i = true ∧ L j = false) → ∀ v, φ i v w → φ i v w'))
   (hop : ∀ i o, i < n → l[i]? = some o → ∀ a w', ψ i w' → (∀ s, (∀ i, i < n → dst? l.toArray i ≠ some s) → a.tmps.getD s undef = a0.tmps.getD s undef) → (∀ j, waitsOn o j = true → φ j (valAt l.toArray a j) w') → a.defers = a0.defers → (Region.wanted o (yielded l.toArray a.tmps) = true → o.wp P a w' (fun a' w'' => ∃ v, a' = a.put o.dst v ∧ (o.dst = none → v = undef) ∧ Rel i w' w'' ∧ φ i v w'') Q) ∧ (Region.wanted o (yielded l.toArray a.tmps) = false → Rel i w' w' ∧ φ i undef w'))
   (hend : ∀ (vals : Nat → Value) w', (∀ i, i < n → φ i (vals i) w') → wpList P l.toArray Q (l.drop n) (putN l.toArray a0 vals n) w') : (Code.region id l.toArray true).wp P Q a0 w := by
 have hf := factsOk_of hB
 have hsz : ∀ i d, i < n → dst? l.toArray i = some d → d < a0.tmps.size := fun i d hi hd => by
   have := List.all_eq_true.1 hD i (by simpa using hi)
   rw [hd] at this
   rw [hN]; simpa using this
 refine wp_region_any hm ?_
 have inv0 : HeadInv .any l.toArray n (Array.replicate l.toArray.size false) :=
   ⟨by simp, fun j oj _ hl => (by rw [getD_replicate_false] at hl; cases hl), fun t _ ht => getD_in (by simpa using ht) (getD_replicate_false _ _)⟩
 have := facts_any (P := P) (Q := Q) (φ := φ) (ψ := ψ) (Rel := Rel) hf hsz stab (fun i o hi ho a w' hp hfr hdep => hop i o hi (by simpa using ho) a w' hp hfr.same (fun j hj => by
   unfold waitsOn at hj
   obtain ⟨q, hq, he⟩ := Array.any_eq_true.1 hj
   simp only [Bool.and_eq_true, beq_iff_eq] at he
   rw [← he.2]
   exact hdep _ (Array.getElem_mem hq) he.1) hfr.defers) l rfl hend n (Array.replicate l.toArray.size false) a0 w.drew ⟨inv0, ⟨rfl, rfl, fun _ _ => rfl⟩, fun i _ hl => (by rw [getD_replicate_false] at hl; cases hl), fun i hi _ => start i hi⟩ (by simp [Array.count_replicate])
 rw [show n + (l.toArray.size - n) = l.toArray.size by have := hf.lt; omega] at this
 exact this
end FG
end Go.Proofs.YtbkjcccbjnehbanGreatDoor

namespace Go.Proofs.YtbkjcccbjnehbanGreatDoor
open Go.RowKit
def caughtW (B0 B1 : Nat) (w : World) : World := (((((w.alloc (.cells #[] 86)).setCell ⟨B0, 0, none⟩ (.int .i64 0)).setCell ⟨B0, 1, none⟩ (.string ⟨#[]⟩)).setCell ⟨B0, 2, none⟩ (.int .i64 0)).setCell ⟨B0, 3, none⟩ (.slice none 0 0)).setCell ⟨B1, 0, none⟩ (.bool false)
set_option maxHeartbeats 1000000 in
set_option maxRecDepth 4000 in
theorem catch_panicking (B0 B1 : Nat) (c0 c1 c2 c3 c4 : Value) (w : World) (h0 : w.heap[B0]? = some (.cells #[c0, c1, c2, c3] 24 (0, 0))) (h1 : w.heap[B1]? = some (.cells #[c4] 4 (0, 0))) (hne : B0 ≠ B1) :
   CallsD Tryz.prog 55 #[.pointer (some ⟨B0, 0, none⟩), .pointer (some ⟨B1, 0, none⟩)] (.panicking unreadC) w fun e u' w' =>
     e = .returned (.tuple #[]) ∧ u' = .panicking [{ v := .iface 86 (.agg #[]), recovered := true }] ∧ w' = caughtW B0 B1 w := by
 refine callsD_of_wpS Tryz.func55 rfl fun c₀ cs hu => ?_
 have bA : Below w.heap.size w (w.alloc (.cells #[] 86)) := (Below.refl _ _).alloc (Nat.le_refl _) _
 have k0 := (bA.block _ (Array.getElem?_eq_some_iff.1 h0).1).trans h0
 have k1 := (bA.block _ (Array.getElem?_eq_some_iff.1 h1).1).trans h1
 obtain ⟨z0, z1, z2, z3, q0, q1, q2, q3⟩ := blk4 k0
 have y0 : (w.alloc (.cells #[] 86)).cell? ⟨B1, 0, none⟩ = some c4 := blk_cell (i := 0) k1 (by simp)
 have yf : (w.alloc (.cells #[] 86)).frozen? ⟨B1, 0, none⟩ = false := blk_frozen k1 0
 have hn2 : ¬ B0 = B1 := hne
 have hn3 : ¬ B1 = B0 := fun e => hne e.symm
 have hta : ∀ u : World, (Instr.typeAssert (.iface 86 (.agg #[])) 20 86 true).run Tryz.prog u = .ok (.tuple #[.agg #[], .bool true]) u := fun u => by kernel_rfl
 have e11 : (#[Value.pointer (some ⟨B0, 0, none⟩), Value.pointer (some ⟨B1, 0, none⟩)] ++ Array.replicate (Tryz.f55.ntmps - (#[Value.pointer (some ⟨B0, 0, none⟩), Value.pointer (some ⟨B1, 0, none⟩)] : Array Value).size) undef) = #[.pointer (some ⟨B0, 0, none⟩), .pointer (some ⟨B1, 0, none⟩), undef, undef, undef, undef, undef, undef, undef, undef, undef] := rfl
 rw [e11]
 clear e11 h0 h1 k0 k1
 apply wpS_seq
 apply wpS_region
 simp [wpOpsS, go_sem, recoverD, hu, Exit.thenS, hta]
 clear bA
 obtain ⟨W, hW⟩ : ∃ W, W = w.alloc (.cells #[] 86) := ⟨_, rfl⟩
 rw [← hW] at z0 z1 z2 z3 q0 q1 q2 q3 y0 yf
 simp only [caughtW]
 rw [← hW]
 clear hta hW
 refine wpS_of_wp ?_
 generalize (w.heap.size : Nat) = NW
 go_wp2
 simp [bodyPostS, results, Tryz.results55]
set_option maxHeartbeats 1000000 in
set_option maxRecDepth 4000 in
theorem catch_idle (B0 B1 : Nat) (w : World) :
   CallsD Tryz.prog 55 #[.pointer (some ⟨B0, 0, none⟩), .pointer (some ⟨B1, 0, none⟩)] .returning w fun e u' w' =>
     e = .returned (.tuple #[]) ∧ u' = .returning ∧ w' = w.alloc (.cells #[] 86) := by
 refine callsD_of_wpS Tryz.func55 rfl fun c₀ cs hu => ?_
 have hta : ∀ u : World, (Instr.typeAssert .nilIface 20 86 true).run Tryz.prog u = .ok (.tuple #[.agg #[], .bool false]) u := fun u => by kernel_rfl
 have e11 : (#[Value.pointer (some ⟨B0, 0, none⟩), Value.pointer (some ⟨B1, 0, none⟩)] ++ Array.replicate (Tryz.f55.ntmps - (#[Value.pointer (some ⟨B0, 0, none⟩), Value.pointer (some ⟨B1, 0, none⟩)] : Array Value).size) undef) = #[.pointer (some ⟨B0, 0, none⟩), .pointer (some ⟨B1, 0, none⟩), undef, undef, undef, undef, undef, undef, undef, undef, undef] := rfl
 rw [e11]
 clear e11
 apply wpS_seq
 apply wpS_region
 simp [wpOpsS, go_sem, recoverD, hu, Exit.thenS, hta]
 clear hta
 refine wpS_of_wp ?_
 go_wp2
 cases c₀
 simp_all [bodyPostS, results, Tryz.results55]
theorem results_cc {P : Program} {fn : Func} {p q : Tmp} {ty ty2 : TypeId} (h : fn.results = #[.cell p ty, .cell q ty2]) (tmps : Array Value) (w : World) (g : Nat) (t : TypeId) (cs : Array Value) (fr : Nat × Nat) (d : TypeDesc)
   (hp : tmps.getD p undef = .pointer (some ⟨g, 0, none⟩)) (hg : w.heap[g]? = some (.cells cs t fr))
   (hu : P.underlying ty = some d) (hd : (match d with | .struct _ | .array _ _ => true | _ => false) = true) (hi : (P.info? ty).map (·.size) = some cs.size)
   (v2 : Value) (g2 : Nat) (hq : tmps.getD q undef = .pointer (some ⟨g2, 0, none⟩)) (hl : (loadVar ty2 ⟨g2, 0, none⟩).run P w = .ok v2 w) :
   (results fn tmps).run P w = .ok (.tuple #[.agg cs, v2]) w := by
 have hp' : tmps[p]?.getD undef = .pointer (some ⟨g, 0, none⟩) := by simpa using hp
 have hq' : tmps[q]?.getD undef = .pointer (some ⟨g2, 0, none⟩) := by simpa using hq
 simp [results, h, hp', hq', asAddr, run_loadVar_row w g t ty cs fr d hg hu hd hi, hl]
def wholeO (R : Option (Tm × St)) : Option (Tm × St) := match R with
 | some y => if y.2.rest = [] ∧ y.1.ok = true then some y else none
 | none => none
def WholeR (g m : Nat) (L : List Sg) (lv nv : Value) (w : World) (R : Option (Tm × St)) (e : Ending) (w' : World) : Prop :=
 ∃ v nv' F tm st, e = .returned (.tuple #[v, .bool R.isSome]) ∧ TOk 24 (XI g m nv') w.heap.size w' tm v F ∧ FX (XI g m nv) (XI g m nv') w w' ∧ (∀ y, R = some y → tm = y.1 ∧ st = y.2 ∧ IRd g m L lv nv' w' 0 st)
theorem caught_zero {B0 B1 : Nat} {w : World} {c0 c1 c2 c3 : Value} {T : TypeId} (hne : B0 ≠ B1) (h0 : w.heap[B0]? = some (.cells #[c0, c1, c2, c3] T (0, 0))) : (caughtW B0 B1 w).heap[B0]? = some (.cells #[.int .i64 0, .string ⟨#[]⟩, .int .i64 0, .slice none 0 0] T (0, 0)) := by
 unfold caughtW
 rw [blk_other _ hne]
 exact blk4_set ((((Below.refl w.heap.size w).alloc (Nat.le_refl _) _).block B0 (Array.getElem?_eq_some_iff.1 h0).1).trans h0)
theorem caught_one {B0 B1 : Nat} {w : World} {c4 : Value} {T : TypeId} (hne : B0 ≠ B1) (h1 : w.heap[B1]? = some (.cells #[c4] T (0, 0))) : (caughtW B0 B1 w).heap[B1]? = some (.cells #[.bool false] T (0, 0)) := by
 unfold caughtW
 have h2 : (w.alloc (.cells #[] 86)).heap[B1]? = some (.cells #[c4] T (0, 0)) := (((Below.refl w.heap.size w).alloc (Nat.le_refl _) _).block B1 (Array.getElem?_eq_some_iff.1 h1).1).trans h1
 have h3 := (blk4_other (d0 := .int .i64 0) (d1 := .string ⟨#[]⟩) (d2 := .int .i64 0) (d3 := .slice none 0 0) (Ne.symm hne)).trans h2
 have := blk_set (i := 0) h3 (.bool false)
 simpa using this
theorem caught_fx {X X' : Nat → Prop} {w0 w : World} {B0 B1 : Nat} (h : FX X X' w0 w) (h0 : w0.heap.size ≤ B0) (h1 : w0.heap.size ≤ B1) : FX X X' w0 (caughtW B0 B1 w) := by
 unfold caughtW
 exact (((((h.alloc _).set (Or.inr h0) _).set (Or.inr h0) _).set (Or.inr h0) _).set (Or.inr h0) _).set (Or.inr h1) _
structure WBase (R0 R1 : Nat) (w2 : World) (cs : Array Value) (w' : World) : Prop where
 os : w'.os = w2.os
 tape : w'.tape = w2.tape
 output : w'.output = w2.output
 size : w2.heap.size ≤ w'.heap.size
 r0 : w'.heap[R0]? = some (.cells cs 24 (0, 0))
 oth : ∀ k, k < w2.heap.size → k ≠ R0 → k ≠ R1 → w'.heap[k]? = w2.heap[k]?
set_option maxHeartbeats 8000000 in
set_option maxRecDepth 20000 in
theorem i_whole (g m : Nat) (L : List Sg) (lv nv : Value) (st : St) (w : World) (hL : L.length ≤ 3000) (hO : ∀ x ∈ L, SOk x) (h : IRd g m L lv nv w 0 st) :
   Calls Tryz.prog 33 #[.pointer (some ⟨g, 0, none⟩)] w fun e w' => WholeR g m L lv nv w (wholeO (termO false 130 1200 st)) e w' := by
 have hmf : ∀ (fn : Fn) (first cap : Array Value) (w : World), (Instr.makeFunc fn first cap).run Tryz.prog w = .ok (.func fn first cap) w := fun _ _ _ _ => rfl
 have hT : TermCI 130 g m L lv := i_term g m L lv hL hO 130
 obtain ⟨W, hW⟩ : ∃ W, W = (w.alloc (.cells #[.int .i64 0, .string ⟨#[]⟩, .int .i64 0, .slice none 0 0] 24)).alloc (.cells #[.bool false] 4) := ⟨_, rfl⟩
 have bW : Below w.heap.size w W := by rw [hW]; exact ((Below.refl _ _).alloc (Nat.le_refl _) _).alloc (by simp) _
 have sW : W.heap.size = w.heap.size + 2 := by rw [hW]; simp
 have k0 : W.heap[w.heap.size]? = some (.cells #[.int .i64 0, .string ⟨#[]⟩, .int .i64 0, .slice none 0 0] 24 (0, 0)) := by rw [hW]; exact (alloc_old _ _ (by simp)).trans (heap_alloc_new _ _)
 have k1 : W.heap[w.heap.size + 1]? = some (.cells #[.bool false] 4 (0, 0)) := by rw [hW]; exact alloc_at _ _ (by simp)
 have HH : Hid (IRd g m L lv nv w 0 st) := h
 have HT := hT 0 1200 st nv W (by omega) (h.keep bW)
 have hnX : ∀ k, w.heap.size ≤ k → ¬ XI g m nv k := fun k hk hh => by have := h.lt.2.2 _ hh; omega
 have HNX : Hid (∀ k, w.heap.size ≤ k → ¬ XI g m nv k) := hnX
 have HBW : Hid (Below w.heap.size w W ∧ W.heap.size = w.heap.size + 2) := ⟨bW, sW⟩
 have HK0 : Hid (W.heap[w.heap.size]? = some (.cells #[.int .i64 0, .string ⟨#[]⟩, .int .i64 0, .slice none 0 0] 24 (0, 0))) := k0
 have HK1 : Hid (W.heap[w.heap.size + 1]? = some (.cells #[.bool false] 4 (0, 0))) := k1
 have HL : Hid (L.length ≤ 3000) := hL
 obtain ⟨R, hR⟩ : ∃ R, R = termO false 130 1200 st := ⟨_, rfl⟩
 rw [← hR] at HT ⊢
 clear h hT hnX bW sW k0 k1 hL hR
 go_enter_defers Tryz.func33, Tryz.ntmps33
 go_upto_region 2 with fail
 rw [← hW]
 clear hW hmf
 cases R with
 | none =>
   replace HT : Hid _ := HT
   go_wp2_with (go_at_call 56; refine (Calls.mono HT.out ?_); rintro e w1 ⟨rfl, nv1, hx⟩; have HX1 : Hid (FX (XI g m nv) (XI g m nv1) W w1) := hx; clear hx)
   have hx := HX1.out
   have hz := HBW.out.2
   have q0 := (hx.block _ (by omega) (HNX.out _ (Nat.le_refl _))).trans HK0.out
   have q1 := (hx.block _ (by omega) (HNX.out _ (Nat.le_succ _))).trans HK1.out
   refine leaves_cons (f := 55) (args := #[.pointer (some ⟨w.heap.size, 0, none⟩), .pointer (some ⟨w.heap.size + 1, 0, none⟩)]) (by simp) (by simp [go_sem]) ?_
   refine (catch_panicking w.heap.size (w.heap.size + 1) _ _ _ _ _ w1 q0 q1 (by omega)).mono ?_
   rintro e u' w'' ⟨rfl, rfl, rfl⟩
   have r0 := caught_zero (B1 := w.heap.size + 1) (by omega) q0
   have r1 := caught_one (B0 := w.heap.size) (by omega) q1
   refine ⟨_, results_cc rfl _ _ w.heap.size 24 _ (0, 0) _ rfl r0 Tryz.underlying24 rfl (by kernel_rfl) (.bool false) (w.heap.size + 1) rfl ?_, ?_⟩
   · have c1 : (caughtW w.heap.size (w.heap.size + 1) w1).cell? ⟨w.heap.size + 1, 0, none⟩ = some (.bool false) := blk_cell (i := 0) r1 (by simp)
     simp [go_sem, c1]
   · exact ⟨_, nv1, [], .mk 0 ⟨#[]⟩ 0 [], st, rfl, TOk.leaf (by omega) (by omega) (by decide), caught_fx ((FX.of_below HBW.out.1).trans hx) (Nat.le_refl _) (by omega), fun y hy => by cases hy⟩
 | some y =>
   obtain ⟨tm, s1⟩ := y
   replace HT : Hid _ := HT
   have HZ := HBW.out.2
   go_upto_region 3 with (go_at_call 56; refine (Calls.mono HT.out ?_); rintro e w1 ⟨v, rfl, F, nv1, ht, hi, hx⟩; obtain ⟨t1, t2, t3, t4, t5, t6, rfl⟩ := ht.form; have hk0 := (hx.block _ (by have := HBW.out.2; omega) (HNX.out _ (Nat.le_refl _))).trans HK0.out; obtain ⟨z0, z1, z2, z3, q0, q1, q2, q3⟩ := blk4 hk0; have HK01 : Hid _ := hk0; have HX1 : Hid (FX (XI g m nv) (XI g m nv1) W w1) := hx; have HI1 : Hid (IRd g m L lv nv1 w1 0 s1) := hi; have HT1 : Hid (TOk 24 (XI g m nv1) W.heap.size w1 tm (.agg #[.int .i64 t1, .string t2, .int .i64 t3, .slice t4 t5 t6]) F) := ht; clear ht hi hx hk0)
   obtain ⟨w2, hw2⟩ : ∃ w2, w2 = (((w1.setCell ⟨w.heap.size, 0, none⟩ (.int .i64 t1)).setCell ⟨w.heap.size, 1, none⟩ (.string t2)).setCell ⟨w.heap.size, 2, none⟩ (.int .i64 t3)).setCell ⟨w.heap.size, 3, none⟩ (.slice t4 t5 t6) := ⟨_, rfl⟩
   rw [← hw2]
   have oE : ∀ k, k ≠ w.heap.size → w2.heap[k]? = w1.heap[k]? := fun k hk => by rw [hw2]; exact blk4_other hk
   have hn1 : ∀ k, w.heap.size ≤ k → k < W.heap.size → ¬ XI g m nv1 k := fun k h1 h2 hh => (HX1.out.new k hh).elim (HNX.out k h1) (fun h3 => by omega)
   have hgw := HH.out.lt.1
   have I2 : IRd g m L lv nv1 w2 0 s1 := HI1.out.turn fun k hk => oE k (fun e => by
     rcases hk with hk | hk
     · omega
     · rw [e] at hk; exact hn1 _ (Nat.le_refl _) (by omega) hk)
   have HI2 : Hid (IRd g m L lv nv1 w2 0 s1) := I2
   have HT2 : Hid (TOk 24 (XI g m nv1) (w.heap.size + 2) w2 tm (.agg #[.int .i64 t1, .string t2, .int .i64 t3, .slice t4 t5 t6]) F) := (HT1.out.turn fun k hk _ => oE k (by omega)).lo_le (by omega)
   have HK02 : Hid (w2.heap[w.heap.size]? = some (.cells #[.int .i64 t1, .string t2, .int .i64 t3, .slice t4 t5 t6] 24 (0, 0))) := by rw [hw2]; exact blk4_set HK01.out
   have HK12 : Hid (w2.heap[w.heap.size + 1]? = some (.cells #[.bool false] 4 (0, 0))) := (oE _ (by omega)).trans ((HX1.out.block _ (by omega) (HNX.out _ (by omega))).trans HK1.out)
   have HX2 : Hid (FX (XI g m nv) (XI g m nv1) w w2) := by
     rw [hw2]
     exact (((((FX.of_below HBW.out.1).trans HX1.out).set (Or.inr (Nat.le_refl _)) _).set (Or.inr (Nat.le_refl _)) _).set (Or.inr (Nat.le_refl _)) _).set (Or.inr (Nat.le_refl _)) _
   have HN2 : Hid (¬ XI g m nv1 w.heap.size ∧ ¬ XI g m nv1 (w.heap.size + 1) ∧ g < w.heap.size) := ⟨hn1 _ (Nat.le_refl _) (by omega), hn1 _ (by omega) (by omega), hgw⟩
   obtain ⟨p, ms, hg, ⟨ao, cap, hlv, hlc, hcap, _⟩, _, _, _, _, _, hpl, hdr, _⟩ := I2.ex
   obtain ⟨NL, hNL⟩ : ∃ NL, NL = L.length := ⟨_, rfl⟩
   rw [← hNL] at hlv
   have hgc := hg
   rw [hlv] at hgc
   obtain ⟨b0, hb0⟩ : ∃ b0, b0 = ((p : Int) == (NL : Int)) := ⟨_, rfl⟩
   have hrest : b0 = decide (s1.rest = []) := by
     rw [hb0]
     by_cases e : p = NL
     · have : s1.rest = [] := by rw [← hdr, e, hNL, List.drop_length]
       rw [decide_eq_true this]; simp [e]
     · have h2 : ¬ s1.rest = [] := fun h => by
         have := congrArg List.length hdr
         rw [h, List.length_drop] at this
         simp at this
         omega
       rw [decide_eq_false h2]
       exact beq_false_of_ne (fun h => e (by omega))
   have HRB : Hid (b0 = decide (s1.rest = [])) := hrest
   have HB0 : Hid (((p : Int) == (NL : Int)) = b0) := hb0.symm
   have HG2 : Hid (w2.heap[g]? = some (.cells #[.slice ao NL cap, .int .i64 (p : Int), .int .i64 ((0 : Nat) : Int), nv1, .map (some m)] 63 (0, 0)) ∧ g < w2.heap.size) := ⟨hgc, (Array.getElem?_eq_some_iff.1 hg).1⟩
   have HTO : Hid (∀ u, (∀ k, k < w2.heap.size → k ≠ w.heap.size → k ≠ w.heap.size + 1 → u.heap[k]? = w2.heap[k]?) → Calls Tryz.prog 57 #[.agg #[.int .i64 t1, .string t2, .int .i64 t3, .slice t4 t5 t6]] u fun e w' => e = .returned (.bool tm.ok) ∧ Below u.heap.size u w') := fun u hu => implOk tm u _ (Own.toIn _ _ _ (Own.keep _ _ _ HT2.out.own fun f hf => hu f (HT2.out.lt f hf) (by have := (HT2.out.out f hf).1; omega) (by have := (HT2.out.out f hf).1; omega)))
   clear hw2 oE hn1 hgw I2 hg hlv hlc hcap hpl hdr hgc hrest hb0 hNL HT HK0 HK1 HX1 HI1 HT1 HK01 z0 z1 z2 z3 q0 q1 q2 q3 HZ
   obtain ⟨R0, hR0⟩ : ∃ R0, R0 = w.heap.size := ⟨_, rfl⟩
   obtain ⟨R1, hR1⟩ : ∃ R1, R1 = w.heap.size + 1 := ⟨_, rfl⟩
   have HRR : Hid (R0 = w.heap.size ∧ R1 = w.heap.size + 1) := ⟨hR0, hR1⟩
   rw [← hR1] at HK12 HTO HN2
   rw [← hR0] at HK02 HTO HN2
   have hR01 : R0 ≠ R1 := by omega
   have HR01 : Hid (R0 ≠ R1 ∧ R0 < w2.heap.size ∧ R1 < w2.heap.size ∧ g < R0) := ⟨hR01, (Array.getElem?_eq_some_iff.1 HK02.out).1, (Array.getElem?_eq_some_iff.1 HK12.out).1, HN2.out.2.2⟩
   have hR1' : R1 = R0 + 1 := by omega
   simp only [← hR0]
   simp only [← hR1']
   clear hR0 hR1 hR1' hR01
   refine FG.wp_region_factsG 17 (fun i v w' => match i with
     | 0 => v = .agg #[.int .i64 t1, .string t2, .int .i64 t3, .slice t4 t5 t6]
     | 1 => v = .pointer (some ⟨g, 0, none⟩)
     | 2 => v = .pointer (some ⟨g, 0, none⟩)
     | 3 => v = .pointer (some ⟨g, 1, none⟩)
     | 4 => v = .int .i64 (p : Int)
     | 5 => v = .pointer (some ⟨g, 0, none⟩)
     | 6 => v = .pointer (some ⟨g, 0, none⟩)
     | 7 => v = .pointer (some ⟨g, 0, none⟩)
     | 8 => v = .slice ao NL cap
     | 9 => v = .int .i64 (NL : Int)
     | 10 => v = .bool b0
     | 11 => v = .bool b0
     | 12 => b0 = true → v = .agg #[.int .i64 t1, .string t2, .int .i64 t3, .slice t4 t5 t6]
     | 13 => b0 = true → v = .bool tm.ok
     | 14 => v = .bool (b0 && tm.ok)
     | 15 => True
     | _ => WBase R0 R1 w2 #[.int .i64 t1, .string t2, .int .i64 t3, .slice t4 t5 t6] w' ∧ w'.heap[R1]? = some (.cells #[.bool (b0 && tm.ok)] 4 (0, 0)))
     (fun i w' => WBase R0 R1 w2 #[.int .i64 t1, .string t2, .int .i64 t3, .slice t4 t5 t6] w' ∧ (i = 16 → w'.heap[R1]? = some (.cells #[.bool false] 4 (0, 0))))
     (fun j w w' => (j = 15 → Set0 R0 w w' ∧ w'.heap[R0]? = some (.cells #[.int .i64 t1, .string t2, .int .i64 t3, .slice t4 t5 t6] 24 (0, 0))) ∧ (j = 16 → Set0 R1 w w') ∧ (j ≠ 15 → j ≠ 16 → Below w.heap.size w w')) (by kernel_rfl) (by kernel_rfl) 22 rfl (by kernel_rfl) ?_ ?_ ?_ ?_
   · intro i _
     have hd := (Below.refl w2.heap.size w2).drew
     have hz := HR01.out
     exact ⟨⟨hd.os, hd.tape, hd.output, hd.size, (hd.block _ hz.2.1).trans HK02.out, fun k hk _ _ => hd.block k hk⟩, fun _ => (hd.block _ hz.2.2.1).trans HK12.out⟩
   · intro i j u u' hi hj hne hrel
     have hz := HR01.out
     refine ⟨fun _ => fun ⟨p1, p2⟩ => ?_, fun ⟨Lf, hcl, hLi, hLj⟩ v => ?_⟩
     · have hl1 : w2.heap.size ≤ u.heap.size := p1.size
       by_cases e15 : j = 15
       · obtain ⟨hs, hr⟩ := hrel.1 e15
         exact ⟨⟨hs.os.trans p1.os, hs.tape.trans p1.tape, hs.output.trans p1.output, by rw [hs.size]; exact p1.size, hr, fun k hk h0 h1 => (hs.oth k h0).trans (p1.oth k hk h0 h1)⟩, fun e => (hs.oth _ (Ne.symm hz.1)).trans (p2 e)⟩
       · by_cases e16 : j = 16
         · have hs := hrel.2.1 e16
           exact ⟨⟨hs.os.trans p1.os, hs.tape.trans p1.tape, hs.output.trans p1.output, by rw [hs.size]; exact p1.size, (hs.oth _ hz.1).trans p1.r0, fun k hk h0 h1 => (hs.oth k h1).trans (p1.oth k hk h0 h1)⟩, fun e => absurd (e16.trans e.symm) hne⟩
         · have hb := hrel.2.2 e15 e16
           exact ⟨⟨hb.os.trans p1.os, hb.tape.trans p1.tape, hb.output.trans p1.output, Nat.le_trans p1.size hb.size, (hb.block _ (by omega)).trans p1.r0, fun k hk h0 h1 => (hb.block k (by omega)).trans (p1.oth k hk h0 h1)⟩, fun e => (hb.block _ (by omega)).trans (p2 e)⟩
     · match i, hi with
       | 0, _ => exact fun h => h
       | 1, _ => exact fun h => h
       | 2, _ => exact fun h => h
       | 3, _ => exact fun h => h
       | 4, _ => exact fun h => h
       | 5, _ => exact fun h => h
       | 6, _ => exact fun h => h
       | 7, _ => exact fun h => h
       | 8, _ => exact fun h => h
       | 9, _ => exact fun h => h
       | 10, _ => exact fun h => h
       | 11, _ => exact fun h => h
       | 12, _ => exact fun h => h
       | 13, _ => exact fun h => h
       | 14, _ => exact fun h => h
       | 15, _ => exact fun h => h
       | 16, _ =>
         have all : ∀ q, q < 16 → Lf q = true := fun q hq => by
           match q, hq with
           | 0, _ => exact hcl 16 _ rfl hLi 0 (by kernel_rfl)
           | 1, _ => exact hcl 16 _ rfl hLi 1 (by kernel_rfl)
           | 2, _ => exact hcl 16 _ rfl hLi 2 (by kernel_rfl)
           | 3, _ => exact hcl 16 _ rfl hLi 3 (by kernel_rfl)
           | 4, _ => exact hcl 16 _ rfl hLi 4 (by kernel_rfl)
           | 5, _ => exact hcl 16 _ rfl hLi 5 (by kernel_rfl)
           | 6, _ => exact hcl 16 _ rfl hLi 6 (by kernel_rfl)
           | 7, _ => exact hcl 16 _ rfl hLi 7 (by kernel_rfl)
           | 8, _ => exact hcl 16 _ rfl hLi 8 (by kernel_rfl)
           | 9, _ => exact hcl 16 _ rfl hLi 9 (by kernel_rfl)
           | 10, _ => exact hcl 16 _ rfl hLi 10 (by kernel_rfl)
           | 11, _ => exact hcl 16 _ rfl hLi 11 (by kernel_rfl)
           | 12, _ => exact hcl 16 _ rfl hLi 12 (by kernel_rfl)
           | 13, _ => exact hcl 16 _ rfl hLi 13 (by kernel_rfl)
           | 14, _ => exact hcl 16 _ rfl hLi 14 (by kernel_rfl)
           | 15, _ => exact hcl 16 _ rfl hLi 15 (by kernel_rfl)
           | n + 16, h => exact absurd h (by omega)
         exact absurd (all j (by omega)) (by rw [hLj]; simp)
       | n + 17, h => exact absurd h (by omega)
   · intro i o hi ho a u ⟨p1, p2⟩ hfr hdep hdf
     have u0 : a.tmps.getD 0 undef = .pointer (some ⟨g, 0, none⟩) := hfr 0 (by decide)
     have u2 : a.tmps.getD 2 undef = .pointer (some ⟨R0, 0, none⟩) := hfr 2 (by decide)
     have u3 : a.tmps.getD 3 undef = .pointer (some ⟨R1, 0, none⟩) := hfr 3 (by decide)
     have hz := HR01.out
     have kg := (p1.oth g HG2.out.2 (by omega) (by have := HRR.out; omega)).trans HG2.out.1
     obtain ⟨g0, g1, g2, g3, g4, _⟩ := b5f kg
     obtain ⟨x0, x1, x2, x3, f0, f1, f2, f3⟩ := blk4 p1.r0
     have rb : ∀ {j : Nat} {v w' : World}, Below v.heap.size v w' → j ≠ 15 → j ≠ 16 → (j = 15 → Set0 R0 v w' ∧ w'.heap[R0]? = some (.cells #[.int .i64 t1, .string t2, .int .i64 t3, .slice t4 t5 t6] 24 (0, 0))) ∧ (j = 16 → Set0 R1 v w') ∧ (j ≠ 15 → j ≠ 16 → Below v.heap.size v w') := fun hb h1 h2 => ⟨fun e => absurd e h1, fun e => absurd e h2, fun _ _ => hb⟩
     match i, hi with
     | 0, _ =>
       obtain rfl : _ = o := by simpa using ho
       refine FG.plain rfl (FZ.fact_valueZ (w' := u) (v := .agg #[.int .i64 t1, .string t2, .int .i64 t3, .slice t4 t5 t6]) rfl ?_ (rb (Below.refl _ _) (by decide) (by decide)) rfl)
       simp only [execOp, Act.eval, u2]
       go_simp
     | 1, _ =>
       obtain rfl : _ = o := by simpa using ho
       refine FG.plain rfl (FZ.fact_valueZ (w' := u) (v := .pointer (some ⟨g, 0, none⟩)) rfl ?_ (rb (Below.refl _ _) (by decide) (by decide)) rfl)
       simp only [execOp, Act.eval, u0]
       go_simp
     | 2, _ =>
       obtain rfl : _ = o := by simpa using ho
       have h0 : a.tmps.getD 8 undef = .pointer (some ⟨g, 0, none⟩) := hdep 1 (by kernel_rfl)
       refine FG.plain rfl (FZ.fact_valueZ (w' := u) (v := .pointer (some ⟨g, 0, none⟩)) rfl ?_ (rb (Below.refl _ _) (by decide) (by decide)) rfl)
       simp only [execOp, Act.eval, h0]
       go_simp
     | 3, _ =>
       obtain rfl : _ = o := by simpa using ho
       have h0 : a.tmps.getD 9 undef = .pointer (some ⟨g, 0, none⟩) := hdep 2 (by kernel_rfl)
       refine FG.plain rfl (FZ.fact_valueZ (w' := u) (v := .pointer (some ⟨g, 1, none⟩)) rfl ?_ (rb (Below.refl _ _) (by decide) (by decide)) rfl)
       simp only [execOp, Act.eval, h0]
       go_simp
     | 4, _ =>
       obtain rfl : _ = o := by simpa using ho
       have h0 : a.tmps.getD 10 undef = .pointer (some ⟨g, 1, none⟩) := hdep 3 (by kernel_rfl)
       refine FG.plain rfl (FZ.fact_valueZ (w' := u) (v := .int .i64 (p : Int)) rfl ?_ (rb (Below.refl _ _) (by decide) (by decide)) rfl)
       simp only [execOp, Act.eval, h0]
       go_simp
     | 5, _ =>
       obtain rfl : _ = o := by simpa using ho
       refine FG.plain rfl (FZ.fact_valueZ (w' := u) (v := .pointer (some ⟨g, 0, none⟩)) rfl ?_ (rb (Below.refl _ _) (by decide) (by decide)) rfl)
       simp only [execOp, Act.eval, u0]
       go_simp
     | 6, _ =>
       obtain rfl : _ = o := by simpa using ho
       have h0 : a.tmps.getD 12 undef = .pointer (some ⟨g, 0, none⟩) := hdep 5 (by kernel_rfl)
       refine FG.plain rfl (FZ.fact_valueZ (w' := u) (v := .pointer (some ⟨g, 0, none⟩)) rfl ?_ (rb (Below.refl _ _) (by decide) (by decide)) rfl)
       simp only [execOp, Act.eval, h0]
       go_simp
     | 7, _ =>
       obtain rfl : _ = o := by simpa using ho
       have h0 : a.tmps.getD 13 undef = .pointer (some ⟨g, 0, none⟩) := hdep 6 (by kernel_rfl)
       refine FG.plain rfl (FZ.fact_valueZ (w' := u) (v := .pointer (some ⟨g, 0, none⟩)) rfl ?_ (rb (Below.refl _ _) (by decide) (by decide)) rfl)
       simp only [execOp, Act.eval, h0]
       go_simp
     | 8, _ =>
       obtain rfl : _ = o := by simpa using ho
       have h0 : a.tmps.getD 14 undef = .pointer (some ⟨g, 0, none⟩) := hdep 7 (by kernel_rfl)
       refine FG.plain rfl (FZ.fact_valueZ (w' := u) (v := .slice ao NL cap) rfl ?_ (rb (Below.refl _ _) (by decide) (by decide)) rfl)
       simp only [execOp, Act.eval, h0]
       go_simp
     | 9, _ =>
       obtain rfl : _ = o := by simpa using ho
       have h0 : a.tmps.getD 15 undef = .slice ao NL cap := hdep 8 (by kernel_rfl)
       refine FG.plain rfl (FZ.fact_valueZ (w' := u) (v := .int .i64 (NL : Int)) rfl ?_ (rb (Below.refl _ _) (by decide) (by decide)) rfl)
       simp only [execOp]
       go_simp
     | 10, _ =>
       obtain rfl : _ = o := by simpa using ho
       have h0 : a.tmps.getD 11 undef = .int .i64 (p : Int) := hdep 4 (by kernel_rfl)
       have h1 : a.tmps.getD 16 undef = .int .i64 (NL : Int) := hdep 9 (by kernel_rfl)
       refine FG.plain rfl (FZ.fact_valueZ (w' := u) (v := .bool b0) rfl ?_ (rb (Below.refl _ _) (by decide) (by decide)) rfl)
       have hb := HB0.out
       simp only [execOp, Act.eval, h0, h1]
       go_simp
     | 11, _ =>
       obtain rfl : _ = o := by simpa using ho
       have h0 : a.tmps.getD 17 undef = .bool b0 := hdep 10 (by kernel_rfl)
       refine FG.plain rfl (FZ.fact_valueZ (w' := u) (v := .bool b0) rfl ?_ (rb (Below.refl _ _) (by decide) (by decide)) rfl)
       simp only [execOp, Act.eval, h0]
       go_simp
     | 12, _ =>
       obtain rfl : _ = o := by simpa using ho
       have h0 : a.tmps.getD 18 undef = .bool b0 := hdep 11 (by kernel_rfl)
       rw [FG.wanted_some (k := 11) (d := 18) (want := true) rfl rfl h0]
       refine ⟨fun _ => FZ.fact_valueZ (w' := u) (v := .agg #[.int .i64 t1, .string t2, .int .i64 t3, .slice t4 t5 t6]) rfl ?_ (rb (Below.refl _ _) (by decide) (by decide)) (fun _ => rfl), fun e => ⟨rb (Below.refl _ _) (by decide) (by decide), fun e2 => by rw [e2] at e; cases e⟩⟩
       simp only [execOp, Act.eval, u2]
       go_simp
     | 13, _ =>
       obtain rfl : _ = o := by simpa using ho
       have h0 : a.tmps.getD 18 undef = .bool b0 := hdep 11 (by kernel_rfl)
       have h1 : b0 = true → a.tmps.getD 19 undef = .agg #[.int .i64 t1, .string t2, .int .i64 t3, .slice t4 t5 t6] := hdep 12 (by kernel_rfl)
       rw [FG.wanted_some (k := 11) (d := 18) (want := true) rfl rfl h0]
       refine ⟨fun e => ?_, fun e => ⟨rb (Below.refl _ _) (by decide) (by decide), fun e2 => by rw [e2] at e; cases e⟩⟩
       have hbt : b0 = true := by simpa using e
       refine FZ.fact_callZ rfl rfl Tryz.func57 (by kernel_rfl) (by kernel_rfl) (args := #[.agg #[.int .i64 t1, .string t2, .int .i64 t3, .slice t4 t5 t6]]) (by simp [Act.eval, h1 hbt]) ?_
       refine Calls.mono (HTO.out u p1.oth) ?_
       rintro e u' ⟨rfl, hb⟩
       exact Or.inl ⟨_, rfl, rb hb (by decide) (by decide), fun _ => rfl⟩
     | 14, _ =>
       obtain rfl : _ = o := by simpa using ho
       have h0 : a.tmps.getD 18 undef = .bool b0 := hdep 11 (by kernel_rfl)
       have h1 : b0 = true → a.tmps.getD 20 undef = .bool tm.ok := hdep 13 (by kernel_rfl)
       refine FG.plain rfl (FZ.fact_valueZ (w' := u) (v := .bool (b0 && tm.ok)) rfl ?_ (rb (Below.refl _ _) (by decide) (by decide)) rfl)
       cases hb : b0 with
       | false =>
         rw [hb] at h0
         simp only [execOp, Act.eval, h0]
         go_simp
       | true =>
         rw [hb] at h0
         have h2 := h1 hb
         simp only [execOp, Act.eval, h0, h2]
         go_simp
     | 15, _ =>
       obtain rfl : _ = o := by simpa using ho
       have h0 : a.tmps.getD 7 undef = .agg #[.int .i64 t1, .string t2, .int .i64 t3, .slice t4 t5 t6] := hdep 0 (by kernel_rfl)
       have hS := Set0.of4 R0 u (.int .i64 t1) (.string t2) (.int .i64 t3) (.slice t4 t5 t6)
       refine FG.plain rfl (FZ.fact_storeZ (w' := (((u.setCell ⟨R0, 0, none⟩ (.int .i64 t1)).setCell ⟨R0, 1, none⟩ (.string t2)).setCell ⟨R0, 2, none⟩ (.int .i64 t3)).setCell ⟨R0, 3, none⟩ (.slice t4 t5 t6)) rfl ?_ ⟨fun _ => ⟨hS, blk4_set p1.r0⟩, fun e => absurd e (by decide), fun e => absurd rfl e⟩ trivial)
       simp only [execOp, Act.eval, h0, u2]
       go_simp
     | 16, _ =>
       obtain rfl : _ = o := by simpa using ho
       have h0 : a.tmps.getD 21 undef = .bool (b0 && tm.ok) := hdep 14 (by kernel_rfl)
       have k1 := p2 rfl
       have y0 : u.cell? ⟨R1, 0, none⟩ = some (.bool false) := blk_cell (i := 0) k1 (by simp)
       have yf := blk_frozen k1 0
       have hS : Set0 R1 u (u.setCell ⟨R1, 0, none⟩ (.bool (b0 && tm.ok))) := ⟨rfl, rfl, rfl, by simp [World.setCell], fun k hk => blk_other _ hk⟩
       refine FG.plain rfl (FZ.fact_storeZ (w' := u.setCell ⟨R1, 0, none⟩ (.bool (b0 && tm.ok))) rfl ?_ ⟨fun e => absurd e (by decide), fun _ => hS, fun _ e => absurd rfl e⟩ ⟨⟨p1.os, p1.tape, p1.output, by rw [hS.size]; exact p1.size, (hS.oth _ hz.1).trans p1.r0, fun k hk h0 h1 => (hS.oth k h1).trans (p1.oth k hk h0 h1)⟩, by simpa using blk_set (i := 0) k1 (.bool (b0 && tm.ok))⟩)
       simp only [execOp, Act.eval, h0, u3]
       go_simp
     | n + 17, h => exact absurd h (by omega)
   · intro vals w5 hf
     obtain ⟨p1, k1⟩ := hf 16 (by omega)
     have HP1 : Hid (WBase R0 R1 w2 #[.int .i64 t1, .string t2, .int .i64 t3, .slice t4 t5 t6] w5) := p1
     have HK1 : Hid (w5.heap[R1]? = some (.cells #[.bool (b0 && tm.ok)] 4 (0, 0))) := k1
     simp only [FG.putN, List.getElem?_toArray, List.getElem?_cons_zero, List.getElem?_cons_succ, Option.bind_some, List.drop_succ_cons, List.drop_zero]
     clear p1 k1 hf
     generalize vals 0 = mm0
     generalize vals 1 = mm1
     generalize vals 2 = mm2
     generalize vals 3 = mm3
     generalize vals 4 = mm4
     generalize vals 5 = mm5
     generalize vals 6 = mm6
     generalize vals 7 = mm7
     generalize vals 8 = mm8
     generalize vals 9 = mm9
     generalize vals 10 = mm10
     generalize vals 11 = mm11
     generalize vals 12 = mm12
     generalize vals 13 = mm13
     generalize vals 14 = mm14
     simp only [Act.put, List.setIfInBounds_toArray, List.set_cons_succ, List.set_cons_zero]
     have hr0 := HP1.out.r0
     obtain ⟨x0, x1, x2, x3, _⟩ := blk4 hr0
     have y0 : w5.cell? ⟨R1, 0, none⟩ = some (.bool (b0 && tm.ok)) := blk_cell (i := 0) HK1.out (by simp)
     go_wp2
     refine leaves_cons (f := 55) (args := #[.pointer (some ⟨R0, 0, none⟩), .pointer (some ⟨R1, 0, none⟩)]) (by simp) (by simp [go_sem]) ?_
     refine (catch_idle R0 R1 w5).mono ?_
     rintro e u' w'' ⟨rfl, rfl, rfl⟩
     have bA : Below w5.heap.size w5 (w5.alloc (.cells #[] 86)) := (Below.refl _ _).alloc (Nat.le_refl _) _
     have q1 := (bA.block _ (Array.getElem?_eq_some_iff.1 HK1.out).1).trans HK1.out
     have hp := HP1.out
     have hz := HR01.out
     refine ⟨_, results_cc rfl _ _ R0 24 _ (0, 0) _ rfl ((bA.block _ (Array.getElem?_eq_some_iff.1 hr0).1).trans hr0) Tryz.underlying24 rfl (by kernel_rfl) (.bool (b0 && tm.ok)) R1 rfl ?_, ?_⟩
     · have c1 : (w5.alloc (.cells #[] 86)).cell? ⟨R1, 0, none⟩ = some (.bool (b0 && tm.ok)) := blk_cell (i := 0) q1 (by simp)
       simp [go_sem, c1]
     · have hrr := HRR.out
       have hn := HN2.out
       have F5 : FX (XI g m nv) (XI g m nv1) w w5 := by
         have hx := HX2.out
         exact ⟨hp.os.trans hx.os, hp.tape.trans hx.tape, hp.output.trans hx.output, Nat.le_trans hx.size hp.size, fun k hk hxk => (hp.oth k (Nat.lt_of_lt_of_le hk hx.size) (by omega) (by omega)).trans (hx.block k hk hxk), hx.new⟩
       have T5 : TOk 24 (XI g m nv1) w.heap.size w5 tm (.agg #[.int .i64 t1, .string t2, .int .i64 t3, .slice t4 t5 t6]) F :=
         ⟨Own.keep _ _ _ HT2.out.own fun k hk => hp.oth k (HT2.out.lt k hk) (by have := (HT2.out.out k hk).1; omega) (by have := (HT2.out.out k hk).1; omega), HT2.out.nd, fun k hk => ⟨by have := (HT2.out.out k hk).1; omega, (HT2.out.out k hk).2⟩⟩
       have I5 : IRd g m L lv nv1 w5 0 s1 := by
         refine HI2.out.turn fun k hk => ?_
         have hlt : k < w2.heap.size := by
           rcases hk with hk | hk
           · have := HI2.out.lt.1; omega
           · exact HI2.out.lt.2.2 k hk
         refine hp.oth k hlt (fun e => ?_) (fun e => ?_)
         · rcases hk with hk | hk
           · omega
           · rw [e] at hk; exact hn.1 hk
         · rcases hk with hk | hk
           · omega
           · rw [e] at hk; exact hn.2.1 hk
       have hb := HRB.out
       refine ⟨_, nv1, F, tm, s1, ?_, T5.step (FX.of_below bA), F5.trans (FX.of_below bA), fun z hz2 => ?_⟩
       · have e1 : (wholeO (some (tm, s1))).isSome = (b0 && tm.ok) := by
           unfold wholeO
           simp only
           by_cases h1 : s1.rest = [] ∧ tm.ok = true
           · rw [if_pos h1, hb, decide_eq_true h1.1, h1.2]; rfl
           · rw [if_neg h1, hb]
             by_cases h2 : s1.rest = []
             · rw [decide_eq_true h2, Bool.true_and]
               cases h3 : tm.ok with
               | false => rfl
               | true => exact absurd ⟨h2, h3⟩ h1
             · rw [decide_eq_false h2, Bool.false_and]; rfl
         rw [e1]
       · unfold wholeO at hz2
         simp only at hz2
         split at hz2
         · cases hz2
           exact ⟨rfl, rfl, I5.keep bA⟩
         · cases hz2
end Go.Proofs.YtbkjcccbjnehbanGreatDoor
