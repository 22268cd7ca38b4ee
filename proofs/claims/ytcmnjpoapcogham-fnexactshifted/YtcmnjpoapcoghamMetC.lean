/- A list gone into that stands at a place of its own: it is gone into. -/
import Derived.Test.YtcmnjpoapcoghamCMapK
import Derived.Test.YtcmnjpoapcoghamTmMarkP
import Derived.Deep.RegionWith
namespace Go.Proofs.Ytcmnjpoapcogham
open Go.RowKit

/-- block m is a map whose keys are places of blocks D -/
def DMapAt (w : World) (m : Nat) (D : List Nat) : Prop := CMapAt w m D

theorem dmap_look (w : World) (m : Nat) (D : List Nat) (h : DMapAt w m D) (a : Addr) (n : Int) (hD : a.block ∉ D) (ha : PB w a) (hS : DPB w D) :
    (Instr.lookup 106 (.map (some m)) (pk a none n) true).run Try.prog w = .ok (.tuple #[.agg #[], .bool false]) w := by
  obtain ⟨es, clock, h1, h2⟩ := h
  have hr := cfind a n D hD _ h2 w ha hS
  have hc := cchk 9998 es.isEmpty w a n
  simp [Instr.lookup, run_underlying Try.underlying106, MapKept.run_getObj_map h1, hc, hr]

theorem dmap_put (w : World) (m : Nat) (D : List Nat) (h : DMapAt w m D) (a : Addr) (n : Int) (hD : a.block ∉ D) (ha : PB w a) (hS : DPB w D) :
    ∃ o, (Instr.mapUpdate 106 (.map (some m)) (pk a none n) (.agg #[])).run Try.prog w = .ok () (setB w m o) ∧ DMapAt (setB w m o) m (a.block :: D) := by
  obtain ⟨es, clock, h1, h2⟩ := h
  have hr := cfind a n D hD _ h2 w ha hS
  have hc := cchk 9998 false w a n
  refine ⟨.map (es.push { key := pk a none n, val := .agg #[], born := clock }) (clock + 1), ?_, _, _, setB_at h1, ?_⟩
  · simp [Instr.mapUpdate, run_underlying Try.underlying106, MapKept.run_getObj_map h1, hc, hr, MapKept.run_setObj_map _ h1, setB]
  · rw [Array.toList_push]
    intro e he
    rcases List.mem_append.1 he with he | he
    · obtain ⟨a', n', q1, q2⟩ := h2 e he
      exact ⟨a', n', q1, by simp [q2]⟩
    · rw [List.mem_singleton] at he
      subst he
      exact ⟨a, n, rfl, by simp⟩

structure MetC (w : World) (g : Nat) (mo : Option Nat) (D : List Nat) : Prop where
  u : ∃ u : Nat, u ≤ 400 ∧ w.heap[g]? = some (.cells #[.int .i64 (u : Int), .map mo] 108 (0, 0))
  m : ∀ m, mo = some m → m ≠ g ∧ DMapAt w m D

def metC (g : Nat) (mo : Option Nat) : List Nat := g :: mo.toList

theorem MetC.keep {w w' : World} {g : Nat} {mo : Option Nat} {D : List Nat} (h : MetC w g mo D) (hg : ∀ k ∈ metC g mo, w'.heap[k]? = w.heap[k]?) : MetC w' g mo D := by
  obtain ⟨⟨u, h1, h2⟩, h3⟩ := h
  refine ⟨⟨u, h1, (hg g (by simp [metC])).trans h2⟩, fun m hm => ?_⟩
  obtain ⟨h4, es, clock, h5, h6⟩ := h3 m hm
  exact ⟨h4, es, clock, (hg m (by simp [metC, hm])).trans h5, h6⟩

theorem MetC.lt {w : World} {g : Nat} {mo : Option Nat} {D : List Nat} (h : MetC w g mo D) : ∀ k ∈ metC g mo, k < w.heap.size := fun k hk => by
  obtain ⟨⟨u, _, h2⟩, h3⟩ := h
  simp only [metC, List.mem_cons] at hk
  rcases hk with rfl | hk
  · exact (Array.getElem?_eq_some_iff.1 h2).1
  · cases mo with
    | none => cases hk
    | some m =>
      simp at hk
      subst hk
      obtain ⟨_, es, clock, h5, _⟩ := h3 k rfl
      exact (Array.getElem?_eq_some_iff.1 h5).1

theorem PBc.below {w w' : World} {a : Addr} (h : PB w a) (hb : Below w.heap.size w w') : PB w' a := by
  obtain ⟨cur, T, h1⟩ := h
  exact ⟨cur, T, (hb.block _ (Array.getElem?_eq_some_iff.1 h1).1).trans h1⟩
theorem DPBc.below {w w' : World} {D : List Nat} (h : DPB w D) (hb : Below w.heap.size w w') : DPB w' D := fun f hf => by
  obtain ⟨cur, T, h1⟩ := h f hf
  exact ⟨cur, T, (hb.block _ (Array.getElem?_eq_some_iff.1 h1).1).trans h1⟩
theorem PBc.out {F : List Nat} {w w' : World} {a : Addr} (h : PB w a) (ho : Out F w w') (hn : a.block ∉ F) : PB w' a := by
  obtain ⟨cur, T, h1⟩ := h
  exact ⟨cur, T, (ho.block _ (Array.getElem?_eq_some_iff.1 h1).1 hn).trans h1⟩
theorem DMapAt.mono {w : World} {m : Nat} {D D' : List Nat} (h : DMapAt w m D) (hs : ∀ d ∈ D, d ∈ D') : DMapAt w m D' := by
  obtain ⟨es, cl, h1, h2⟩ := h
  exact ⟨es, cl, h1, fun e he => by obtain ⟨a, n, h3, h4⟩ := h2 e he; exact ⟨a, n, h3, hs _ h4⟩⟩

theorem alloc_hereC (w : World) (o : Obj) {i : Nat} (h : i = w.heap.size) : (w.alloc o).heap[i]? = some o := by
  subst h; exact heap_alloc_new w o

set_option maxHeartbeats 4000000 in
set_option maxRecDepth 20000 in
theorem go_fresh (w : World) (g : Nat) (mo : Option Nat) (D : List Nat) (h : MetC w g mo D) (a : Addr) (n : Int) (ha : PB w a) (hS : DPB w D) (hag : a.block ≠ g) (hD : a.block ∉ D) :
    Calls Try.prog 79 #[.pointer (some ⟨g, 0, none⟩), .agg #[.pointer (some a), .pointer none, .int .i64 n]] w fun e w' =>
      ∃ mo', e = .returned (.bool true) ∧ MetC w' g mo' (a.block :: D) ∧ Out (metC g mo) w w' ∧ (mo' = mo ∨ ∃ m, mo' = some m ∧ w.heap.size ≤ m) := by
  obtain ⟨⟨u, hu, hblk⟩, hm⟩ := h
  obtain ⟨W, hW⟩ : ∃ W, W = w.alloc (.cells #[.pointer (some a), .pointer none, .int .i64 n] 112) := ⟨_, rfl⟩
  have hbW : Below w.heap.size w W := by rw [hW]; exact (Below.refl _ _).alloc (Nat.le_refl _) _
  have hglt : g < w.heap.size := (Array.getElem?_eq_some_iff.1 hblk).1
  have hblkW := (hbW.block g hglt).trans hblk
  have c0 : W.cell? ⟨g, 0, none⟩ = some (.int .i64 (u : Int)) := blk_cell (i := 0) hblkW (by simp)
  have c1 : W.cell? ⟨g, 1, none⟩ = some (.map mo) := blk_cell (i := 1) hblkW (by simp)
  have f0 : W.frozen? ⟨g, 0, none⟩ = false := blk_frozen hblkW _
  have f1 : W.frozen? ⟨g, 1, none⟩ = false := blk_frozen hblkW _
  by_cases h4 : u < 400
  · have HE : Hid (∀ w', w' = W.setCell ⟨g, 0, none⟩ (.int .i64 ((u : Int) + 1)) → MetC w' g mo (a.block :: D) ∧ Out (metC g mo) w w') := fun w' hw' => by
      have hg' : w'.heap[g]? = some (.cells #[.int .i64 ((u + 1 : Nat) : Int), .map mo] 108 (0, 0)) := by
        rw [hw', show ((u + 1 : Nat) : Int) = (u : Int) + 1 by omega]; exact blk_set hblkW _
      have ho : Out (metC g mo) w w' := by rw [hw']; exact (Out.of_below hbW).trans (Out.set (by simp [metC]) _ _ _)
      refine ⟨⟨⟨u + 1, by omega, hg'⟩, fun m hm' => ?_⟩, ho⟩
      obtain ⟨h5, es, clock, h6, h7⟩ := hm m hm'
      have hmlt := (Array.getElem?_eq_some_iff.1 h6).1
      refine ⟨h5, es, clock, ?_, (fun e he => by obtain ⟨a', n', q1, q2⟩ := h7 e he; exact ⟨a', n', q1, List.mem_cons_of_mem _ q2⟩)⟩
      rw [hw', blk_other _ h5, hbW.block m hmlt, h6]
    rw [hW] at c0 c1 f0 f1 HE
    replace HE : Hid _ := HE
    clear hS hblkW hblk hm hbW ha hglt
    go_enter Try.func79, Try.ntmps79
    go_wp2
    go_ret
    exact ⟨mo, rfl, (HE.out _ rfl).1, (HE.out _ rfl).2, Or.inl rfl⟩
  · have q4 : (decide ((u : Int) < 400)) = false := decide_eq_false (by omega)
    have qT : ∀ (w : World) (r : Option Nat), (binOp .eql 106 (.map r) (.map none)).run Try.prog w = .ok (.bool r.isNone) w := fun w r => run_eql_map_nil w _ _ _ r Try.underlying106
    cases mo with
    | some m =>
      obtain ⟨hmg, hmp0⟩ := hm m rfl
      have hmp : DMapAt W m D := by
        obtain ⟨es, clock, h6, h7⟩ := hmp0
        exact ⟨es, clock, (hbW.block m (Array.getElem?_eq_some_iff.1 h6).1).trans h6, h7⟩
      have hmlt : m < W.heap.size := by obtain ⟨es, clock, h6, _⟩ := hmp; exact (Array.getElem?_eq_some_iff.1 h6).1
      have hmltw : m < w.heap.size := by obtain ⟨es, clock, h6, _⟩ := hmp0; exact (Array.getElem?_eq_some_iff.1 h6).1
      have hpa := PBc.below ha hbW
      have hSB := DPBc.below hS hbW
      have hgltB : g < W.heap.size := Nat.lt_of_lt_of_le hglt hbW.size
      have hblkB := hblkW
      have hOB : Out (metC g (some m)) w W := Out.of_below hbW
      have hk0 : W.cell? ⟨w.heap.size, 0, none⟩ = some (.pointer (some a)) := by rw [hW]; simp
      have hk1 : W.cell? ⟨w.heap.size, 1, none⟩ = some (.pointer none) := by rw [hW]; simp
      have hk2 : W.cell? ⟨w.heap.size, 2, none⟩ = some (.int .i64 n) := by rw [hW]; simp
      have hlk := fun w' (he : w'.heap[m]? = W.heap[m]?) (h1 : PB w' a) (h2 : DPB w' D) => dmap_look w' m D (by obtain ⟨es, cl, q1, q2⟩ := hmp; exact ⟨es, cl, he.trans q1, q2⟩) a n hD h1 h2
      unfold pk at hlk
      obtain ⟨X, hX⟩ : ∃ X, X = W.alloc (.cells #[] 101) := ⟨_, rfl⟩
      have hbX : Below W.heap.size W X := by rw [hX]; exact (Below.refl _ _).alloc (Nat.le_refl _) _
      have l1 := hlk X.drew (hbX.drew.block m hmlt) (PBc.below hpa hbX.drew) (DPBc.below hSB hbX.drew)
      have l2 := hlk W.drew ((Below.refl W.heap.size W).drew.block m hmlt) (PBc.below hpa (Below.refl _ _).drew) (DPBc.below hSB (Below.refl _ _).drew)
      have d1 : X.drew.cell? ⟨g, 1, none⟩ = some (.map (some m)) := blk_cell (i := 1) ((hbX.drew.block g hgltB).trans hblkB) (by simp)
      have d2 : W.drew.cell? ⟨g, 1, none⟩ = some (.map (some m)) := blk_cell (i := 1) (((Below.refl W.heap.size W).drew.block g hgltB).trans hblkB) (by simp)
      have hbD : Below W.heap.size W X.drew.drew := hbX.drew.drew
      have d3 : X.drew.drew.cell? ⟨g, 1, none⟩ = some (.map (some m)) := blk_cell (i := 1) ((hbD.block g hgltB).trans hblkB) (by simp)
      obtain ⟨es, clock, hes, hEs⟩ := hmp
      obtain ⟨o, hput, hpm⟩ := dmap_put X.drew.drew m D ⟨es, clock, (hbD.block m hmlt).trans hes, hEs⟩ a n hD (PBc.below hpa hbD) (DPBc.below hSB hbD)
      have k0 : X.drew.drew.cell? ⟨w.heap.size, 0, none⟩ = some (.pointer (some a)) := cell_keep hk0 hbD
      have k1 : X.drew.drew.cell? ⟨w.heap.size, 1, none⟩ = some (.pointer none) := cell_keep hk1 hbD
      have k2 : X.drew.drew.cell? ⟨w.heap.size, 2, none⟩ = some (.int .i64 n) := cell_keep hk2 hbD
      have m0 : X.drew.cell? ⟨w.heap.size, 0, none⟩ = some (.pointer (some a)) := cell_keep hk0 hbX.drew
      have m1 : X.drew.cell? ⟨w.heap.size, 1, none⟩ = some (.pointer none) := cell_keep hk1 hbX.drew
      have m2 : X.drew.cell? ⟨w.heap.size, 2, none⟩ = some (.int .i64 n) := cell_keep hk2 hbX.drew
      have o0 : W.drew.cell? ⟨w.heap.size, 0, none⟩ = some (.pointer (some a)) := cell_keep hk0 (Below.refl _ _).drew
      have o1 : W.drew.cell? ⟨w.heap.size, 1, none⟩ = some (.pointer none) := cell_keep hk1 (Below.refl _ _).drew
      have o2 : W.drew.cell? ⟨w.heap.size, 2, none⟩ = some (.int .i64 n) := cell_keep hk2 (Below.refl _ _).drew
      unfold pk at hput
      have HE : Hid (MetC (setB X.drew.drew m o) g (some m) (a.block :: D) ∧ Out (metC g (some m)) w (setB X.drew.drew m o)) := by
        have hsm : m ≠ g := hmg
        refine ⟨⟨⟨u, hu, ?_⟩, fun m' hm' => ?_⟩, ?_⟩
        · rw [setB_other (Ne.symm hsm), hbD.block g hgltB]; exact hblkB
        · cases hm'
          obtain ⟨es2, cl2, h8, h9⟩ := hpm
          exact ⟨hsm, es2, cl2, h8, h9⟩
        · have ho2 : Out (metC g (some m)) W X.drew.drew := Out.of_below hbD
          refine hOB.trans (ho2.trans ⟨rfl, rfl, rfl, by simp [setB], fun k hk hn => setB_other fun e => ?_⟩)
          exact hn (by simp [metC, e])
      obtain ⟨w9, hw9⟩ : ∃ w9, w9 = setB X.drew.drew m o := ⟨_, rfl⟩
      rw [← hw9] at HE hput
      replace HE : Hid _ := HE
      rw [hX] at l1 d1 d3 hput k0 k1 k2 m0 m1 m2
      rw [hW] at c0 c1 f0 f1 l1 l2 d1 d2 d3 hput k0 k1 k2 m0 m1 m2 o0 o1 o2
      clear hS hSB hblkW hblk hm ha hlk hglt hpa hmp0 hblkB hOB hk0 hk1 hk2 hbX hbD hpm hmlt hmltw hgltB hes hEs hw9 hX hW hbW
      go_enter Try.func79, Try.ntmps79
      go_wp2
      go_region
      all_goals
        go_wp2
        go_region
        go_wp2
        go_ret
        exact ⟨some m, rfl, HE.out.1, HE.out.2, Or.inl rfl⟩
    | none =>
      obtain ⟨V0, hV0⟩ : ∃ V0, V0 = W.alloc (.map #[] 0) := ⟨_, rfl⟩
      obtain ⟨m, hm0⟩ : ∃ m, m = W.heap.size := ⟨_, rfl⟩
      have hsW : W.heap.size = w.heap.size + 1 := by rw [hW]; simp
      have hbV0 : Below w.heap.size w V0 := by rw [hV0, hW]; exact ((Below.refl _ _).alloc (Nat.le_refl _) _).alloc (by simp) _
      have hblkV0 := (hbV0.block g hglt).trans hblk
      have c2 : V0.cell? ⟨g, 1, none⟩ = some (.map none) := blk_cell (i := 1) hblkV0 (by simp)
      have f2 : V0.frozen? ⟨g, 1, none⟩ = false := blk_frozen hblkV0 _
      obtain ⟨V, hV⟩ : ∃ V, V = V0.setCell ⟨g, 1, none⟩ (.map (some m)) := ⟨_, rfl⟩
      have hmg : m ≠ g := by omega
      have hsV : V.heap.size = w.heap.size + 2 := by rw [hV]; simp [World.setCell, hV0, hsW]
      have hmlt : m < V.heap.size := by omega
      have hmV : V.heap[m]? = some (.map #[] 0) := by rw [hV, blk_other _ hmg, hV0]; exact alloc_hereC _ _ hm0
      have hmp : DMapAt V m [] := ⟨#[], 0, hmV, fun e he => by cases he⟩
      have hgltB : g < V.heap.size := by omega
      have hblkB : V.heap[g]? = some (.cells #[.int .i64 (u : Int), .map (some m)] 108 (0, 0)) := by rw [hV]; exact blk_set hblkV0 _
      have hOB : Out (metC g none) w V := by rw [hV]; exact (Out.of_below hbV0).trans (Out.set (by simp [metC]) _ _ _)
      have hpa : PB V a := PBc.out ha hOB (by simp [metC, hag])
      have hSB : DPB V [] := fun x hx => by cases hx
      have hwg : ∀ i, (⟨g, 1, none⟩ : Addr) ≠ ⟨w.heap.size, i, none⟩ := fun i e => by cases e; omega
      have hk0 : V.cell? ⟨w.heap.size, 0, none⟩ = some (.pointer (some a)) := by rw [hV, World.cell?_setCell_other _ _ _ _ (hwg 0), hV0, hW]; simp
      have hk1 : V.cell? ⟨w.heap.size, 1, none⟩ = some (.pointer none) := by rw [hV, World.cell?_setCell_other _ _ _ _ (hwg 1), hV0, hW]; simp
      have hk2 : V.cell? ⟨w.heap.size, 2, none⟩ = some (.int .i64 n) := by rw [hV, World.cell?_setCell_other _ _ _ _ (hwg 2), hV0, hW]; simp
      have hlk := fun w' (he : w'.heap[m]? = V.heap[m]?) (h1 : PB w' a) (h2 : DPB w' []) => dmap_look w' m [] (by obtain ⟨es, cl, q1, q2⟩ := hmp; exact ⟨es, cl, he.trans q1, q2⟩) a n (by simp) h1 h2
      unfold pk at hlk
      obtain ⟨X, hX⟩ : ∃ X, X = V.alloc (.cells #[] 101) := ⟨_, rfl⟩
      have hbX : Below V.heap.size V X := by rw [hX]; exact (Below.refl _ _).alloc (Nat.le_refl _) _
      have l1 := hlk X.drew (hbX.drew.block m hmlt) (PBc.below hpa hbX.drew) (DPBc.below hSB hbX.drew)
      have l2 := hlk V.drew ((Below.refl V.heap.size V).drew.block m hmlt) (PBc.below hpa (Below.refl _ _).drew) (DPBc.below hSB (Below.refl _ _).drew)
      have d1 : X.drew.cell? ⟨g, 1, none⟩ = some (.map (some m)) := blk_cell (i := 1) ((hbX.drew.block g hgltB).trans hblkB) (by simp)
      have d2 : V.drew.cell? ⟨g, 1, none⟩ = some (.map (some m)) := blk_cell (i := 1) (((Below.refl V.heap.size V).drew.block g hgltB).trans hblkB) (by simp)
      have hbD : Below V.heap.size V X.drew.drew := hbX.drew.drew
      have d3 : X.drew.drew.cell? ⟨g, 1, none⟩ = some (.map (some m)) := blk_cell (i := 1) ((hbD.block g hgltB).trans hblkB) (by simp)
      obtain ⟨es, clock, hes, hEs⟩ := hmp
      obtain ⟨o, hput, hpm⟩ := dmap_put X.drew.drew m [] ⟨es, clock, (hbD.block m hmlt).trans hes, hEs⟩ a n (by simp) (PBc.below hpa hbD) (DPBc.below hSB hbD)
      have k0 : X.drew.drew.cell? ⟨w.heap.size, 0, none⟩ = some (.pointer (some a)) := cell_keep hk0 hbD
      have k1 : X.drew.drew.cell? ⟨w.heap.size, 1, none⟩ = some (.pointer none) := cell_keep hk1 hbD
      have k2 : X.drew.drew.cell? ⟨w.heap.size, 2, none⟩ = some (.int .i64 n) := cell_keep hk2 hbD
      have m0 : X.drew.cell? ⟨w.heap.size, 0, none⟩ = some (.pointer (some a)) := cell_keep hk0 hbX.drew
      have m1 : X.drew.cell? ⟨w.heap.size, 1, none⟩ = some (.pointer none) := cell_keep hk1 hbX.drew
      have m2 : X.drew.cell? ⟨w.heap.size, 2, none⟩ = some (.int .i64 n) := cell_keep hk2 hbX.drew
      have o0 : V.drew.cell? ⟨w.heap.size, 0, none⟩ = some (.pointer (some a)) := cell_keep hk0 (Below.refl _ _).drew
      have o1 : V.drew.cell? ⟨w.heap.size, 1, none⟩ = some (.pointer none) := cell_keep hk1 (Below.refl _ _).drew
      have o2 : V.drew.cell? ⟨w.heap.size, 2, none⟩ = some (.int .i64 n) := cell_keep hk2 (Below.refl _ _).drew
      unfold pk at hput
      have HE : Hid (MetC (setB X.drew.drew m o) g (some m) (a.block :: D) ∧ Out (metC g none) w (setB X.drew.drew m o)) := by
        have hsm : m ≠ g := hmg
        refine ⟨⟨⟨u, hu, ?_⟩, fun m' hm' => ?_⟩, ?_⟩
        · rw [setB_other (Ne.symm hsm), hbD.block g hgltB]; exact hblkB
        · cases hm'
          obtain ⟨es2, cl2, h8, h9⟩ := hpm
          exact ⟨hsm, DMapAt.mono ⟨es2, cl2, h8, h9⟩ fun y hy => by rw [List.mem_singleton] at hy; simp [hy]⟩
        · have ho2 : Out (metC g none) V X.drew.drew := Out.of_below hbD
          have hsz : V.heap.size ≤ X.drew.drew.heap.size := hbD.size
          have ho3 := hOB.trans ho2
          refine ⟨ho3.os, ho3.tape, ho3.output, by simpa [setB] using ho3.size, fun k hk hn => (setB_other fun e => ?_).trans (ho3.block k hk hn)⟩
          omega
      obtain ⟨w9, hw9⟩ : ∃ w9, w9 = setB X.drew.drew m o := ⟨_, rfl⟩
      rw [← hw9] at HE hput
      replace HE : Hid _ := HE
      have hmw : w.heap.size ≤ m := by omega
      have hmE : m = w.heap.size + 1 := by omega
      rw [hX] at l1 d1 d3 hput k0 k1 k2 m0 m1 m2
      rw [hV, hV0, hW] at l1 l2 d1 d2 d3 hput k0 k1 k2 m0 m1 m2 o0 o1 o2
      rw [hV0, hW] at c2 f2
      rw [hW] at c0 c1 f0 f1
      clear hS hSB hblkW hblk hm ha hlk hglt hpa hblkB hOB hk0 hk1 hk2 hbX hbD hpm hmlt hgltB hes hEs hw9 hX hV hV0 hW hbW hwg hblkV0 hbV0 hsV hsW hmV hmg hm0
      subst hmE
      have hmm := @run_makeMap Try.prog
      go_enter Try.func79, Try.ntmps79
      go_wp2
      go_region
      all_goals
        go_wp2
        go_region
        go_wp2
        go_ret
        exact ⟨some (w.heap.size + 1), rfl, HE.out.1, HE.out.2, Or.inr ⟨_, rfl, hmw⟩⟩
end Go.Proofs.Ytcmnjpoapcogham
