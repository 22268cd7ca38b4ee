/- Four texts in one. -/
import Derived.Test.YtmhmlkdoaojimapGreatDoorMrg20
import Derived.Test.YtmhmlkdoaojimapGreatDoorMrg14
import Derived.Test.YtmhmlkdoaojimapGreatDoorMrg18
import Derived.Test.YtmhmlkdoaojimapGreatDoorMrg3
import Derived.Maps.Range
import Derived.Maps.RangeWalk
/- impl.mayHaveClauses. -/
namespace Go.Proofs.YtmhmlkdoaojimapGreatDoor
open Go.RowKit

set_option maxHeartbeats 1000000 in
theorem i_may (p : ByteArray) (w : World) :
    Calls Tryz.prog 42 #[.string p] w fun e w' => e = .returned (.bool (mayB p)) ∧ Below w.heap.size w w' := by
  have HC : Hid _ := i_control p w
  obtain ⟨r, hr⟩ : ∃ r, r = mayB p := ⟨_, rfl⟩
  have HV : Hid (r = mayB p) := hr
  rw [← hr]
  clear hr
  by_cases h : p = ⟨#[]⟩
  · subst h
    go_enter Tryz.func42, Tryz.ntmps42
    go_wp2
    go_ret
    exact ⟨by rw [HV.out]; rfl, Below.refl _ _⟩
  · have h1 : ¬ p.toList = [] := fun e => h (by rw [ByteArray.toList_eq] at e; exact ByteArray.ext (Array.toList_inj.1 e))
    have HE : Hid (p.toList.isEmpty = false) := by show _ = _; cases hp : p.toList with | nil => exact absurd hp h1 | cons _ _ => rfl
    have HX : Hid (mayB p = !ctlB p) := by show _ = _; unfold mayB; rw [decide_eq_true h, Bool.true_and]
    clear h
    go_enter Tryz.func42, Tryz.ntmps42
    go_wp2_with (go_at_call 54; refine (Calls.mono HC.out ?_); rintro e w1 ⟨rfl, hb⟩; have HB : Hid _ := hb; clear hb)
    go_ret
    exact ⟨by rw [HV.out, HX.out]; show Ending.returned (.bool (!p.toList.isEmpty && !ctlB p)) = _; rw [HE.out]; rfl, HB.out⟩
end Go.Proofs.YtmhmlkdoaojimapGreatDoor

/- One list of the shelves as a row of its own. -/
namespace Go.Proofs.YtmhmlkdoaojimapGreatDoor
open Go.RowKit

/-- one list of the shelves as a row of its own -/
theorem sh_own {w0 w : World} {B : Nat} {q : ByteArray} {ks : List Cla} {D : Nat → Prop} {v : Value} (h : ShRow 43 41 w0 w B q ks D v) (hD : ∀ f, D f → w.heap[f]? = w0.heap[f]?) (hlt : ∀ f, D f → f < B) :
    ∃ F, OwnClS 43 41 w (ofPred q ks) v F ∧ F.Nodup ∧ (∀ f ∈ F, D f ∨ (∃ cur, w.heap[f]? = some (.cells cur 43 (0, 0)))) := by
  obtain ⟨news, F, h1, h2, h3, h4⟩ := h
  rcases h1.2 with ⟨rfl, hl⟩ | ⟨g, cap, cur, rfl, hb, hh, hr⟩
  · have h0 := List.eq_nil_of_length_eq_zero hl
    exact ⟨[], Or.inl ⟨rfl, h0, rfl⟩, by simp, by simp⟩
  · refine ⟨g :: F, Or.inr ⟨g, cap, news, F, rfl, ⟨h1.1, Or.inr ⟨g, cap, cur, rfl, Nat.zero_le _, hh, hr⟩⟩, rfl, OwnCs.keep _ _ _ h2 fun f hf => hD f (h4 f hf)⟩, List.nodup_cons.2 ⟨fun hg => ?_, h3⟩, fun f hf => ?_⟩
    · have := hlt g (h4 g hg)
      omega
    · rcases List.mem_cons.1 hf with rfl | hf
      · exact Or.inr ⟨cur, hh⟩
      · exact Or.inl (h4 f hf)

end Go.Proofs.YtmhmlkdoaojimapGreatDoor

/- Weights of the clauses of one predicate. -/
namespace Go.Proofs.YtmhmlkdoaojimapGreatDoor
open Go.RowKit

theorem ofPred_wts8 (q : ByteArray) (cs : List Cla) : (ofPred q cs).length ≤ cs.length ∧ claWts (ofPred q cs) ≤ claWts cs := by
  induction cs with
  | nil => simp [ofPred]
  | cons c cs ih =>
    have e : ofPred q (c :: cs) = if predB c.h = q then c :: ofPred q cs else ofPred q cs := by
      unfold ofPred
      by_cases h : predB c.h = q
      · simp [h]
      · simp [h]
    rw [e]
    split
    · simp only [List.length_cons, claWts]; omega
    · simp only [List.length_cons, claWts]; omega
theorem hWt8 {cs : List Cla} {c : Cla} (h : c ∈ cs) : c.h.wt ≤ claWts cs := by
  have h1 := claWt_le h
  have : c.wt = c.h.wt + c.b.wt + c.f.size := rfl
  omega
end Go.Proofs.YtmhmlkdoaojimapGreatDoor

/- impl.DbOk. -/
namespace Go.Proofs.YtmhmlkdoaojimapGreatDoor
open Go.RowKit
open Go.ChangeMaps (setBlock)

def gdK (ks : List Cla) : Value → Bool
  | .string q => okShelf ks q
  | _ => false

/-- what the shelves are as entries -/
theorem sh_entries {w0 w : World} {B m : Nat} {ks : List Cla} {D : Nat → Prop} (h : ShAt 43 41 w0 w B m ks D) (hD : ∀ f, D f → w.heap[f]? = w0.heap[f]?) (hlt : ∀ f, D f → f < B) (hBm : B ≤ m) :
    ∃ es clock, w.heap[m]? = some (.map es clock) ∧ Es0 es.toList clock ∧ (∀ x ∈ es.toList, ∃ q a l k F5, x.key = .string q ∧ x.val = .slice a l k ∧ OwnClS 43 41 w (ofPred q ks) x.val F5 ∧ (∀ f ∈ F5, f ≠ m)) ∧ ((∀ x ∈ es.toList, gdK ks x.key = true) ↔ ∀ c ∈ ks, okCl c = true) := by
  obtain ⟨ms, ⟨es, clock, q1, q2, q3⟩, h2, h3, h4, h5⟩ := h
  have hmem : ∀ x ∈ es.toList, ∃ y ∈ ms, x.key = .string y.1 ∧ x.val = y.2 := fun x hx => by
    have h9 : (x.key, x.val) ∈ ms.map mkW := by rw [← q2]; exact List.mem_map_of_mem (f := fun e : MapEntry => (e.key, e.val)) hx
    obtain ⟨y, hy, e⟩ := List.mem_map.1 h9
    exact ⟨y, hy, (congrArg Prod.fst e).symm, (congrArg Prod.snd e).symm⟩
  have hkeys : es.toList.map (·.key) = (ms.map (·.1)).map Value.string := by
    have := congrArg (List.map Prod.fst) q2
    rw [List.map_map, List.map_map] at this
    rw [List.map_map]
    exact this
  refine ⟨es, clock, q1, ⟨q3.1, q3.2, ?_, fun x hx => ?_⟩, fun x hx => ?_, ?_⟩
  · rw [hkeys]
    unfold List.Nodup at h2 ⊢
    rw [List.pairwise_map]
    exact h2.imp fun hne e => hne (by injection e)
  · obtain ⟨y, _, e, _⟩ := hmem x hx
    exact ⟨y.1, e⟩
  · obtain ⟨y, hy, e1, e2⟩ := hmem x hx
    obtain ⟨F5, f1, f2, f3⟩ := sh_own (h5 y hy).1 hD hlt
    obtain ⟨a, p, e3⟩ := ownClS_shape f1
    refine ⟨y.1, a, _, p, F5, e1, e2.trans e3, e2 ▸ f1, fun f hf e9 => ?_⟩
    subst e9
    rcases f3 f hf with h | ⟨cur, h⟩
    · have := hlt f h; omega
    · rw [q1] at h; cases h
  · rw [okCl_shelf]
    constructor
    · intro h q hq
      cases hg : vget q ms with
      | none => exact absurd (h4 q hg) hq
      | some v =>
        have h9 : mkW (q, v) ∈ es.toList.map (fun e => (e.key, e.val)) := by rw [q2]; exact List.mem_map_of_mem (vget_mem hg)
        obtain ⟨x, hx, e⟩ := List.mem_map.1 h9
        have := h x hx
        rw [show x.key = .string q from congrArg Prod.fst e] at this
        exact this
    · intro h x hx
      obtain ⟨y, hy, e1, _⟩ := hmem x hx
      rw [e1]
      exact h y.1 (h5 y hy).2.2

set_option maxHeartbeats 8000000 in
set_option maxRecDepth 20000 in
theorem i_dbOk (cs : List Cla) (xs : List ByteArray) (w : World) (c0 c1 : Value) (F : List Nat) (h : OwnClS 43 41 w cs c0 F) (hnd : F.Nodup) (hx : SsIn w xs c1) (hl : cs.length ≤ 1100000) (hwt : ∀ c ∈ cs, c.h.wt ≤ 1048576) (htab : Lib.TabIs Tryz.prog w "internal/strconv.uint64pow10" .u64 Lib.pow10Tab) (kb : Bool) (hkb : kb = true ↔ ((∀ c ∈ cs, okCl c = true) ∧ cs.length ≤ 120 ∧ xs.length ≤ 40)) :
    Calls Tryz.prog 24 #[.agg #[c0, c1]] w fun e w' => e = .returned (.bool kb) ∧ Below w.heap.size w w' := by
  have HKB : Hid (kb = true ↔ ((∀ c ∈ cs, okCl c = true) ∧ cs.length ≤ 120 ∧ xs.length ≤ 40)) := hkb
  obtain ⟨W, hW⟩ : ∃ W, W = w.alloc (.cells #[c0, c1] 35) := ⟨_, rfl⟩
  have bW : Below w.heap.size w W := by rw [hW]; exact (Below.refl _ _).alloc (Nat.le_refl _) _
  have k1 : W.heap[w.heap.size]? = some (.cells #[c0, c1] 35 (0, 0)) := by rw [hW]; exact heap_alloc_new _ _
  have how := OwnClS.keep h fun f hf => bW.block f (h.lt f hf)
  have hflt := how.lt
  have HC : Hid _ := shelves_of cs W c0 F hl hwt how hnd (pow_keep htab bW)
  have HFL : Hid (∀ f ∈ F, f < W.heap.size) := hflt
  obtain ⟨a2, p2, rfl, -⟩ := hx
  obtain ⟨a1, p1, rfl⟩ := ownClS_shape h
  have HBW : Hid (Below w.heap.size w W) := bW
  have y0 := blk_cell (i := 0) k1 (by simp)
  have y1 := blk_cell (i := 1) k1 (by simp)
  clear h hnd hl hwt htab bW k1 how hflt hkb
  by_cases h1 : (120 : Int) < (cs.length : Int)
  · go_enter Tryz.func24, Tryz.ntmps24
    go_upto_region 1 with fail
    rw [← hW]
    clear hW
    go_wp2
    go_ret
    have hk : kb = false := by
      cases hk : kb with
      | false => rfl
      | true => have := (HKB.out.1 hk).2.1; omega
    exact ⟨by rw [hk]; rfl, HBW.out⟩
  by_cases h2 : (40 : Int) < (xs.length : Int)
  · go_enter Tryz.func24, Tryz.ntmps24
    go_upto_region 1 with fail
    rw [← hW]
    clear hW
    go_wp2
    go_ret
    have hk : kb = false := by
      cases hk : kb with
      | false => rfl
      | true => have := (HKB.out.1 hk).2.2; omega
    exact ⟨by rw [hk]; rfl, HBW.out⟩
  have HKC : Hid (kb = true ↔ ∀ c ∈ cs, okCl c = true) := by
    show _ ↔ _
    rw [HKB.out]
    exact ⟨fun h => h.1, fun h => ⟨h, by omega, by omega⟩⟩
  clear HKB
  go_enter Tryz.func24, Tryz.ntmps24
  go_upto_region 1 with fail
  rw [← hW]
  clear hW
  go_upto_region 4 with (go_at_call 41; refine (Calls.mono HC.out ?_); rintro e w1 ⟨m, rfl, o1, o2, o3⟩; have HO : Hid (W.heap.size ≤ m ∧ ShAt 43 41 W w1 W.heap.size m cs (fun f => f ∈ F) ∧ Below W.heap.size W w1) := ⟨o1, o2, o3⟩; clear o1 o2 o3)
  clear y0 y1 h1 h2
  obtain ⟨es0, clock, q1, q2, q3, q4⟩ := sh_entries HO.out.2.1 (fun f hf => HO.out.2.2.block f (HFL.out f hf)) HFL.out HO.out.1
  have hrange := run_range_map (P := Tryz.prog) w1 70 9 33 m es0 clock Tryz.underlying70 q1
  have HE : Hid (Es0 es0.toList clock) := q2
  have HROW : Hid (∀ x ∈ es0.toList, ∃ q a l k F5, x.key = .string q ∧ x.val = .slice a l k ∧ OwnClS 43 41 w1 (ofPred q cs) x.val F5 ∧ (∀ f ∈ F5, f ≠ m)) := q3
  have HALL : Hid (kb = true ↔ ∀ x ∈ es0.toList, gdK cs x.key = true) := HKC.out.trans q4.symm
  have HM0 : Hid (w1.heap[m]? = some (.map es0 clock)) := q1
  clear q1 q2 q3 q4 HC HKC
  go_upto_region 5 with fail
  obtain ⟨V, hV⟩ : ∃ V, V = w1.alloc (.mapIter (some m) clock #[] clock) := ⟨_, rfl⟩
  obtain ⟨r, hr⟩ : ∃ r, r = w1.heap.size := ⟨_, rfl⟩
  rw [← hV, ← hr]
  have bV : Below w1.heap.size w1 V := by rw [hV]; exact (Below.refl _ _).alloc (Nat.le_refl _) _
  have hml := (Array.getElem?_eq_some_iff.1 HM0.out).1
  have HS : Hid (RgAt V m r clock es0.toList (gdK cs) es0 #[] ∧ Out [m] w1 V) :=
    ⟨⟨⟨clock, by rw [hV, hr]; exact heap_alloc_new _ _, Nat.le_refl _⟩, (bV.block m hml).trans HM0.out, List.Sublist.refl _, fun x hx => Or.inl hx, fun x hx hc => by simp at hc⟩, Out.of_below bV⟩
  have HRR : Hid (r = w1.heap.size ∧ m < w1.heap.size) := ⟨hr, hml⟩
  clear hV hr bV hml hrange
  go_loopw [4] (fun _ wr => ∃ (es : Array MapEntry) (seen : Array Nat), Hid (RgAt wr m r clock es0.toList (gdK cs) es seen ∧ Out [m] w1 wr)) (fun _ wr => wr.rangeLeft m r)
  case atStart => exact ⟨es0, #[], HS.out⟩
  case round =>
    obtain ⟨es, seen, HR⟩ := hrel
    obtain ⟨c0, hit, hsc⟩ := HR.out.1.it
    have hml : Hid (wr.rangeLeft m r = (leftOf es seen).size) := by
      show _ = _
      simp only [World.rangeLeft, HR.out.1.map, hit]
    go_wp2_with (at_next; refine wpList_next_rg rfl _ rfl m r clock c0 es seen rfl hit HR.out.1.map (fun x hx => HE.out.old x (HR.out.1.sub.subset hx)) hsc ?_ ?_)
    · intro h0
      have hmp := HR.out.1.map
      have HFIN : Hid (kb = ((es.size : Int) == 0)) := by
        show _ = _
        have hall := all_seen es seen (by first | exact h0 | simpa using h0)
        rw [Bool.eq_iff_iff, HALL.out, beq_iff_eq]
        constructor
        · intro h9
          cases he : es.toList with
          | nil =>
            have h8 : es.toList.length = 0 := by rw [he]; rfl
            rw [Array.length_toList] at h8
            omega
          | cons x l =>
            have hx : x ∈ es.toList := by rw [he]; simp
            have := HR.out.1.done x hx (hall x hx)
            rw [h9 x (HR.out.1.sub.subset hx)] at this
            cases this
        · intro h9 x hx
          rcases HR.out.1.stay x hx with h | h
          · have : es.toList.length = 0 := by rw [Array.length_toList]; omega
            rw [List.eq_nil_of_length_eq_zero this] at h
            cases h
          · exact h
      clear hit hsc hml h0
      have hlen : (Builtin.len_ #[70] 3 #[.map (some m)]).run Tryz.prog wr = .ok (.int .i64 (es.size : Int)) wr := by
        simp [Builtin.len_, run_underlying Tryz.underlying70, MapKept.run_getObj_map hmp]
        rfl
      go_wp2
      go_ret
      refine ⟨?_, ?_⟩
      · rw [HFIN.out]
        try rfl
      · have hb := HO.out.2.2
        have hout : Below W.heap.size W wr := hb.trans (HR.out.2.below (by intro f hf; simp at hf; subst hf; exact HO.out.1) hb.size)
        exact HBW.out.trans (hout.mono HBW.out.size)
    · intro e w2 he hw2
      replace he : e ∈ (leftOf es seen).toList := by first | exact he | simpa using he
      obtain ⟨hmem, _⟩ := mem_left he
      have hh2 : w2.heap = wr.heap := by rcases hw2 with rfl | rfl <;> rfl
      obtain ⟨U, hU⟩ : ∃ U, U = setBlock w2 r (.mapIter (some m) clock (seen.push e.born) clock) := ⟨_, rfl⟩
      rw [← hU]
      have hrm : m ≠ r := by have := HRR.out; omega
      have hrU : U.heap[r]? = some (.mapIter (some m) clock (seen.push e.born) clock) := by rw [hU]; exact setBlock_at (by rw [hh2]; exact hit)
      have hoU : ∀ k, k ≠ r → U.heap[k]? = wr.heap[k]? := fun k hk => by rw [hU, setBlock_ne hk, hh2]
      have hmU : U.heap[m]? = some (.map es clock) := (hoU m hrm).trans HR.out.1.map
      have hsU : U.heap.size = wr.heap.size := by rw [hU, setBlock_size, hh2]
      have hen := run_entry_at (P := Tryz.prog) U r m clock seen es clock e hrU hmU hmem ((HR.out.1.sub.map (·.born)).nodup HE.out.born)
      obtain ⟨q, av, lv, kv, F5, ek, ev, ow, hne⟩ := HROW.out e (HR.out.1.sub.subset hmem)
      have hfl := ow.lt
      have hin : ClsIn U (ofPred q cs) (.slice av lv kv) := by
        rw [← ev]
        refine (OwnClS.keep ow fun f hf => ?_).toIn
        have := hfl f hf
        exact (hoU f (by have := HRR.out; omega)).trans (HR.out.2.block f (hfl f hf) (by simp; exact hne f hf))
      have hosU : U.os = w1.os ∧ U.tape = w1.tape ∧ U.output = w1.output := by
        have h9 := HR.out.2
        have : U.os = wr.os ∧ U.tape = wr.tape ∧ U.output = wr.output := by
          rw [hU]
          rcases hw2 with rfl | rfl <;> exact ⟨rfl, rfl, rfl⟩
        exact ⟨this.1.trans h9.os, this.2.1.trans h9.tape, this.2.2.trans h9.output⟩
      have HOU : Hid (Out [m] w1 U) := ⟨hosU.1, hosU.2.1, hosU.2.2, by rw [hsU]; exact HR.out.2.size, fun k hk hkm => (hoU k (by have := HRR.out; omega)).trans (HR.out.2.block k hk hkm)⟩
      rw [ek, ev] at hen
      rw [ek, ev]
      have HMAY : Hid _ := i_may q U
      have HAR : Hid (∀ u, Below U.heap.size U u → Calls Tryz.prog 43 #[.slice av lv kv] u fun e w' => e = .returned (.bool ((ofPred q cs).all okPair)) ∧ Below u.heap.size u w') := fun u hb => i_allRight (ofPred q cs) u _ (hin.keep hb)
      obtain ⟨b1, hb1⟩ : ∃ b1, mayB q = b1 := ⟨_, rfl⟩
      obtain ⟨b2, hb2⟩ : ∃ b2, (ofPred q cs).all okPair = b2 := ⟨_, rfl⟩
      have HGD : Hid (gdK cs e.key = (b1 && b2)) := by show _ = _; rw [ek]; show okShelf cs q = _; unfold okShelf; rw [hb1, hb2]
      rw [hb1] at HMAY
      rw [hb2] at HAR
      have HEK : Hid (e.key = .string q) := ek
      have HUU : Hid (U.heap[r]? = some (.mapIter (some m) clock (seen.push e.born) clock) ∧ U.heap[m]? = some (.map es clock)) := ⟨hrU, hmU⟩
      have HHE : Hid (e ∈ (leftOf es seen).toList) := he
      have HB0 : Hid (Below U.heap.size U U) := Below.refl _ _
      have HKEEP : Hid (∀ u, Below U.heap.size U u → gdK cs e.key = false → (RgAt u m r clock es0.toList (gdK cs) es (seen.push e.born) ∧ Out [m] w1 u) ∧ u.rangeLeft m r < wr.rangeLeft m r) := fun u hb hg => by
        have hru := (hb.block r (Array.getElem?_eq_some_iff.1 hrU).1).trans hrU
        have hmu := (hb.block m (Array.getElem?_eq_some_iff.1 hmU).1).trans hmU
        obtain ⟨k1, k2⟩ := RgAt.kept HE.out HR.out.1 he hru hmu hg
        refine ⟨⟨k1, HOU.out.trans (Out.of_below hb)⟩, ?_⟩
        rw [hml.out]
        simp only [World.rangeLeft, hru, hmu]
        exact k2
      have HGONE : Hid (∀ u, Below U.heap.size U u → gdK cs e.key = true → ∃ u', (∀ ty, (Builtin.delete_ #[70, 9] ty #[.map (some m), .string q]).run Tryz.prog u = .ok (.tuple #[]) u') ∧ ∃ es', (RgAt u' m r clock es0.toList (gdK cs) es' (seen.push e.born) ∧ Out [m] w1 u') ∧ u'.rangeLeft m r < wr.rangeLeft m r) := fun u hb hg => by
        have hru := (hb.block r (Array.getElem?_eq_some_iff.1 hrU).1).trans hrU
        have hmu := (hb.block m (Array.getElem?_eq_some_iff.1 hmU).1).trans hmU
        obtain ⟨es', k1, k2, k3⟩ := RgAt.gone HE.out HR.out.1 he hru hmu ek hg
        have ho := HOU.out.trans (Out.of_below (F := [m]) hb)
        refine ⟨_, k1, es', ⟨k2, ⟨ho.os, ho.tape, ho.output, by rw [setBlock_size]; exact ho.size, fun k hk hkm => (setBlock_ne (by simpa using hkm)).trans (ho.block k hk hkm)⟩⟩, ?_⟩
        rw [hml.out]
        obtain ⟨c9, hit9, _⟩ := k2.it
        simp only [World.rangeLeft, k2.map, hit9]
        exact k3
      clear he hmem hh2 hU hrm hrU hoU hmU hsU ek ev ow hne hfl hin hosU hb1 hb2 hw2 hit hsc hml HR
      cases b1
      · go_wp2_with (go_at_call 42; refine (Calls.mono HMAY.out ?_); rintro e w4 ⟨rfl, hb⟩; replace HB0 : Hid (Below U.heap.size U w4) := hb; clear hb)
        obtain ⟨h1, h2⟩ := HKEEP.out w4 HB0.out (by rw [HGD.out]; rfl)
        exact ⟨⟨es, _, h1⟩, h2⟩
      · cases b2
        · go_wp2_with (first
            | (go_at_call 42; refine (Calls.mono HMAY.out ?_); rintro e w4 ⟨rfl, hb⟩; replace HB0 : Hid (Below U.heap.size U w4) := hb; clear hb)
            | (go_at_call 43; refine (Calls.mono (HAR.out _ HB0.out) ?_); rintro e w5 ⟨rfl, hb⟩; replace HB0 : Hid (Below U.heap.size U w5) := HB0.out.trans (hb.mono HB0.out.size); clear hb))
          obtain ⟨h1, h2⟩ := HKEEP.out w5 HB0.out (by rw [HGD.out]; rfl)
          exact ⟨⟨es, _, h1⟩, h2⟩
        · go_upto_region 8 with (first
            | (go_at_call 42; refine (Calls.mono HMAY.out ?_); rintro e w4 ⟨rfl, hb⟩; replace HB0 : Hid (Below U.heap.size U w4) := hb; clear hb)
            | (go_at_call 43; refine (Calls.mono (HAR.out _ HB0.out) ?_); rintro e w5 ⟨rfl, hb⟩; replace HB0 : Hid (Below U.heap.size U w5) := HB0.out.trans (hb.mono HB0.out.size); clear hb))
          obtain ⟨u', hdel, es', h1, h2⟩ := HGONE.out w5 HB0.out (by rw [HGD.out]; rfl)
          go_wp2_with (at_delete; refine wpList_delete_run rfl _ _ 70 9 rfl _ _ u' rfl rfl hdel ?_)
          exact ⟨⟨_, _, _, _, _, _, _, _, _, _, _, _, _, _, _, ⟨es', _, h1⟩, rfl⟩, h2⟩
end Go.Proofs.YtmhmlkdoaojimapGreatDoor
