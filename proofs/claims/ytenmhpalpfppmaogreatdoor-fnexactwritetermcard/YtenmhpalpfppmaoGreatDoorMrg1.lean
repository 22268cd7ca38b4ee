/- Four texts in one. -/
import Derived.Shelf.Strings.Builder1
import Derived.Shelf.Small.Strs
import Derived.Shelf.Strings.BuilderF
import Derived.Shelf.Strings.BuilderK
import Derived.Shelf.Strconv.Itoa0
import Derived.Shelf.Strconv.Itoa1
import Derived.Shelf.LaysM
import Derived.Shelf.Strconv.Itoa2
import Derived.Shelf.Strconv.Itoa3
import Derived.Shelf.Strconv.Clone
import Derived.Shelf.Strings.Search1
import Derived.Shelf.Unicode.Decode
import Derived.Shelf.Unicode.DecodeSlow
import Derived.Shelf.Unicode.DecodeAny
import Derived.Test.YtenmhpalpfppmaoGreatDoorProg
import Derived.Lib.Builder
import Derived.Lib.AppendStr
import Derived.Lib.UnsafeStr
import Derived.WalkKit
import Derived.ProofKit
import Derived.Laws.Externs
import Derived.WalkSpells
import Derived.Below
/- The library contracts that are proved once over any program, at this translation: no walk, one application each. -/
namespace Go.Proofs.YtenmhpalpfppmaoGreatDoor
open Go.Proofs
open Go.Shelf
def sh_lays169_ren : Go.Shelf.Ren := ⟨fun | 169 => 37 | n => n, fun | 70 => 72 | 9 => 9 | 0 => 0 | 72 => 74 | 37 => 61 | 127 => 86 | 3 => 3 | 5 => 5 | n => n, fun | n => n⟩
theorem sh_lays169 : Go.Proofs.Lays.n169 Tryz.prog sh_lays169_ren := {
  mixed := by kernel_rfl
  f169 := Tryz.func37.trans (congrArg some (by kernel_rfl))
  t0 := Tryz.underlying0
  a0 := Tryz.isAgg0
  z0 := Tryz.sizeOf0
  v0 := Tryz.zeroValue0
  t3 := Tryz.underlying3
  a3 := Tryz.isAgg3
  z3 := Tryz.sizeOf3
  v3 := Tryz.zeroValue3
  t9 := Tryz.underlying9
  a9 := Tryz.isAgg9
  z9 := Tryz.sizeOf9
  v9 := Tryz.zeroValue9
  t37 := Tryz.underlying61
  a37 := Tryz.isAgg61
  z37 := Tryz.sizeOf61
  v37 := Tryz.zeroValue61
  t70 := Tryz.underlying72
  a70 := Tryz.isAgg72
  z70 := Tryz.sizeOf72
  v70 := Tryz.zeroValue72
  t72 := Tryz.underlying74
  a72 := Tryz.isAgg74
  z72 := Tryz.sizeOf74
  v72 := Tryz.zeroValue74
  t127 := Tryz.underlying86
  a127 := Tryz.isAgg86
  z127 := Tryz.sizeOf86
  v127 := Tryz.zeroValue86 }
theorem sh_Builder_Extra_169 : Builder.Extra Tryz.prog sh_lays169_ren := {
  sizeBuilder := by kernel_rfl
  liesBuilder := by kernel_rfl
  t5 := Tryz.underlying5
  a5 := Tryz.isAgg5
  z5 := Tryz.sizeOf5
  v5 := Tryz.zeroValue5
  infoByte := by kernel_rfl
  cellsByte := by kernel_rfl
  sizeByte := by kernel_rfl
  neB5 := by decide }
open Go.RowKit in
theorem sh_Builder_String_any (B b : Nat) (l : List UInt8) (w : World) (h : Lib.IsBuilder 74 5 B b (Lib.byteCells l) w) (hBw : B ≤ w.heap.size) :
    Calls Tryz.prog 37 #[.pointer (some ⟨b, 0, none⟩)] w fun e w' => e = .returned (.string ⟨l.toArray⟩) ∧ Below B w w' := Any.Builder_String_any sh_lays169 sh_Builder_Extra_169 B b l w h hBw
end Go.Proofs.YtenmhpalpfppmaoGreatDoor

/- The text builder of the library, at this program: WriteString and String. -/
namespace Go.Proofs.YtenmhpalpfppmaoGreatDoor
open Go.RowKit

abbrev tB : Nat := 74
theorem bld_size : (Tryz.prog.info? 74).map (·.size) = some 2 := by kernel_rfl
theorem bld_lies : liesAt Tryz.prog Tryz.prog.depth 74 (2 / Tryz.prog.cellsOf 74) 0 74 1 = true := by kernel_rfl
theorem bld_byte : (Tryz.prog.info? 5).map (fun i => (i.zero, i.size, i.bytes)) = some (some (.int .u8 0), 1, 1) := by kernel_rfl
theorem bld_parts {P : Program} {e : TypeId} {z : Value} {s b : Nat} (h : (P.info? e).map (fun i => (i.zero, i.size, i.bytes)) = some (some z, s, b)) : ∃ i, P.info? e = some i ∧ i.zero = some z ∧ i.size = s ∧ i.bytes = b := by
  cases h' : P.info? e with
  | none => rw [h'] at h; cases h
  | some i => rw [h'] at h; simp at h; exact ⟨i, rfl, h.1, h.2.1, h.2.2⟩

set_option maxHeartbeats 1000000 in
set_option maxRecDepth 100000 in
theorem check_used (b : Nat) (w : World) (h0 : w.cell? ⟨b, 0, none⟩ = some (.pointer (some ⟨b, 0, none⟩))) :
    Calls Tryz.prog 52 #[.pointer (some ⟨b, 0, none⟩)] w fun e w' => e = .returned (.tuple #[]) ∧ w' = w := by
  obtain ⟨j, hj, _⟩ := Option.map_eq_some_iff.1 bld_size
  go_enter Tryz.func52, Tryz.ntmps52
  go_wp2
  rw [Lib.run_neq_ptr_same w _ Tryz.underlying72 hj]
  go_wp2
  go_end0
  exact ⟨rfl, rfl⟩

set_option maxHeartbeats 1000000 in
set_option maxRecDepth 100000 in
theorem check_fresh (b : Nat) (w : World) (h0 : w.cell? ⟨b, 0, none⟩ = some (.pointer none)) (hsh : w.shape? b = some (74, 2)) (hfz : w.frozen? ⟨b, 0, none⟩ = false) :
    Calls Tryz.prog 52 #[.pointer (some ⟨b, 0, none⟩)] w fun e w' => e = .returned (.tuple #[]) ∧ w' = w.setCell ⟨b, 0, none⟩ (.pointer (some ⟨b, 0, none⟩)) := by
  obtain ⟨j, hj, hjs⟩ := Option.map_eq_some_iff.1 bld_size
  go_enter Tryz.func52, Tryz.ntmps52
  go_wp2
  rw [Lib.run_to_unsafe w ⟨b, 0, none⟩ Tryz.underlying72 Tryz.underlying90 hj (by rw [hjs]; decide) hsh (Nat.zero_lt_succ 1)]
  simp only [Result.andThen]
  rw [Oper.upon_value]
  go_wp2
  rw [run_callFunc_extern Tryz.func65 (by kernel_rfl) (by kernel_rfl) (by kernel_rfl) (e := Extern.AbiNoEscape.same) (by kernel_rfl)]
  rw [Lib.run_noEscape]
  simp only [Result.andThen]
  rw [Oper.upon_value]
  go_wp2
  rw [Lib.run_from_unsafe w ⟨b, 0, none⟩ Tryz.underlying90 Tryz.underlying72 hj hsh bld_lies]
  simp only [Result.andThen]
  rw [Oper.upon_value]
  go_wp2
  go_end0
  exact ⟨rfl, rfl⟩

theorem check_any (B b : Nat) (bs : List Value) (w : World) (h : Lib.IsBuilder 74 5 B b bs w) :
    Calls Tryz.prog 52 #[.pointer (some ⟨b, 0, none⟩)] w fun e w' => e = .returned (.tuple #[]) ∧ Lib.BuilderAt 74 5 B b (.pointer (some ⟨b, 0, none⟩)) bs w' ∧ Below B w w' := by
  rcases h with h | h
  · refine (check_fresh b w h.cell0 h.shape h.frozen0).mono ?_
    rintro e w' ⟨rfl, rfl⟩
    exact ⟨rfl, h.used _, (Below.refl B w).setCell (p := ⟨b, 0, none⟩) h.1 _⟩
  · refine (check_used b w h.cell0).mono ?_
    rintro e w' ⟨rfl, rfl⟩
    exact ⟨rfl, h, Below.refl B _⟩

set_option maxHeartbeats 1000000 in
set_option maxRecDepth 100000 in
theorem write_string (B b : Nat) (bs : List Value) (s : ByteArray) (w : World) (h : Lib.IsBuilder 74 5 B b bs w) (hlen : bs.length + s.size ≤ 1099511627776) (hBw : B ≤ w.heap.size) :
    Calls Tryz.prog 36 #[.pointer (some ⟨b, 0, none⟩), .string s] w fun e w' => e = .returned (.tuple #[.int .i64 s.size, .nilIface]) ∧ Lib.IsBuilder 74 5 B b (bs ++ Lib.strCells s) w' ∧ Below B w w' := by
  obtain ⟨i0, hi, hz0, hz1, hz2⟩ := bld_parts bld_byte
  go_enter Tryz.func36, Tryz.ntmps36
  go_wp2_with (go_at_call 52; refine (check_any B b bs _ h).mono ?_)
  rintro e w1 ⟨rfl, h1, hb1⟩
  obtain ⟨hB, v, hbk, hown, hne⟩ := h1
  have c0 : w1.cell? ⟨b, 0, none⟩ = some (.pointer (some ⟨b, 0, none⟩)) := by rw [Lib.cell_of_heap hbk]; rfl
  have c1 : w1.cell? ⟨b, 1, none⟩ = some v := by rw [Lib.cell_of_heap hbk]; rfl
  go_wp2_with (at_builtin; refine Lib.wpList_append_own_string _ rfl _ _ 61 9 rfl B 5 i0 Tryz.underlying61 Tryz.underlying9 hi hz0 hz1 hz2 _ _ _ rfl hown s rfl ?c3 ?c4 ?c5 ?_)
  case c3 => unfold maxLen; omega
  case c4 => omega
  case c5 => have := hb1.size; omega
  intro v' w2 hown' hgrow _
  have hlt : b < w1.heap.size := by
    rcases Nat.lt_or_ge b w1.heap.size with h' | h'
    · exact h'
    · simp [Array.getElem?_eq_none h'] at hbk
  have hb2 : w2.heap[b]? = some (.cells #[.pointer (some ⟨b, 0, none⟩), v] 74 (0, 0)) := by
    rw [hgrow.block b hlt (fun e => hne e.symm)]
    exact hbk
  have d0 : w2.cell? ⟨b, 0, none⟩ = some (.pointer (some ⟨b, 0, none⟩)) := by rw [Lib.cell_of_heap hb2]; rfl
  have d1 : w2.cell? ⟨b, 1, none⟩ = some v := by rw [Lib.cell_of_heap hb2]; rfl
  have f1 : w2.frozen? ⟨b, 1, none⟩ = false := Lib.frozen_of_heap hb2 1
  obtain ⟨ao, n', cap, rfl⟩ : ∃ ao n' cap, v' = .slice ao n' cap := by
    rcases hown'.2 with ⟨hv, _⟩ | ⟨g, cap, cur, hv, _⟩
    · exact ⟨_, _, _, hv⟩
    · exact ⟨_, _, _, hv⟩
  go_wp2
  go_ret2
  refine ⟨rfl, Or.inr ?_, ?_⟩
  · exact Lib.BuilderAt.put (T := 74) (e := 5) hB hb2 (bs' := bs ++ Lib.strCells s) (by simpa [Lib.strCells_length] using hown') (by decide)
  · exact (hb1.grown hgrow (by have := hb1.size; omega) (fun k hk => (hown.lt k hk).1)).setCell (p := ⟨b, 1, none⟩) hB _

theorem str_cells (s : ByteArray) : Lib.strCells s = Lib.byteCells s.data.toList := by
  simp [Lib.strCells, Lib.byteCells]
theorem byte_cells_append (a b : List UInt8) : Lib.byteCells (a ++ b) = Lib.byteCells a ++ Lib.byteCells b := by simp [Lib.byteCells]
theorem byte_cells_len (a : List UInt8) : (Lib.byteCells a).length = a.length := by simp [Lib.byteCells]
theorem fresh_builder (w : World) : Lib.IsBuilder 74 5 w.heap.size w.heap.size (Lib.byteCells []) (w.alloc (.cells #[.pointer none, .slice none 0 0] 74)) :=
  Or.inl ⟨Nat.le_refl _, .slice none 0 0, heap_alloc_new w _, ⟨rfl, Or.inl ⟨rfl, rfl⟩⟩, by simp [Value.ownBlock]⟩
end Go.Proofs.YtenmhpalpfppmaoGreatDoor

/- Terms as a tree, and where they lie in memory. Of no program. -/
namespace Go.Proofs.YtenmhpalpfppmaoGreatDoor
open Go.RowKit

inductive Tm where
  | mk : Int → ByteArray → Int → List Tm → Tm

/-- bytes of names and kids, all together -/
def Tm.wt : Tm → Nat
  | .mk _ s _ ks => s.size + ks.length + wts ks
where wts : List Tm → Nat
  | [] => 0
  | t :: ts => t.wt + wts ts
abbrev wts := Tm.wt.wts

mutual
/-- the value v is the term in w -/
def TmIn (w : World) : Tm → Value → Prop
  | .mk k s n ks, v => ∃ ao cap, v = .agg #[.int .i64 k, .string s, .int .i64 n, .slice ao ks.length cap] ∧ (-9223372036854775808 ≤ k ∧ k ≤ 9223372036854775807) ∧ (-9223372036854775808 ≤ n ∧ n ≤ 9223372036854775807) ∧
    s.size ≤ maxLen ∧ ks.length ≤ cap ∧ cap ≤ maxLen ∧ (ks ≠ [] → ∃ b off, ao = some ⟨b, off, none⟩ ∧ TmsIn w ks b off)
/-- .. the terms lie in a row, four cells each -/
def TmsIn (w : World) : List Tm → Nat → Nat → Prop
  | [], _, _ => True
  | t :: ts, b, off => (∃ c0 c1 c2 c3, w.cell? ⟨b, off, none⟩ = some c0 ∧ w.cell? ⟨b, off + 1, none⟩ = some c1 ∧ w.cell? ⟨b, off + 2, none⟩ = some c2 ∧ w.cell? ⟨b, off + 3, none⟩ = some c3 ∧ TmIn w t (.agg #[c0, c1, c2, c3])) ∧ TmsIn w ts b (off + 4)
end

theorem cell_blk {w : World} {a : Addr} {x : Value} (h : w.cell? a = some x) : a.block < w.heap.size := by
  unfold World.cell? at h
  split at h
  · rename_i hb; exact (Array.getElem?_eq_some_iff.1 hb).1
  · cases h

theorem cell_keep {w w' : World} {a : Addr} {x : Value} (h : w.cell? a = some x) (hb : Below w.heap.size w w') : w'.cell? a = some x := by
  rw [World.cell?_of_block (hb.block a.block (cell_blk h))]; exact h

theorem below_set {B g i : Nat} {w w' : World} (h : Below B w w') (hg : B ≤ g) (v : Value) : Below B w (w'.setCell ⟨g, i, none⟩ v) :=
  ⟨h.os, h.tape, h.output, by simpa [World.setCell] using h.size, fun k hk => by
    have : g ≠ k := by omega
    rw [← h.block k hk]
    simp [World.setCell, Array.getElem?_modify, this]⟩

mutual
theorem TmIn.keep {w w' : World} (hb : Below w.heap.size w w') : ∀ (t : Tm) (v : Value), TmIn w t v → TmIn w' t v
  | .mk k s n ks, v, h => by
    obtain ⟨ao, cap, rfl, h1, h2, h3, h4, h5, h6⟩ := h
    refine ⟨ao, cap, rfl, h1, h2, h3, h4, h5, fun h0 => ?_⟩
    obtain ⟨b, off, rfl, h7⟩ := h6 h0
    exact ⟨b, off, rfl, TmsIn.keep hb ks b off h7⟩
theorem TmsIn.keep {w w' : World} (hb : Below w.heap.size w w') : ∀ (ks : List Tm) (b off : Nat), TmsIn w ks b off → TmsIn w' ks b off
  | [], _, _, _ => trivial
  | t :: ts, b, off, h => by
    obtain ⟨⟨c0, c1, c2, c3, h0, h1, h2, h3, ht⟩, hr⟩ := h
    exact ⟨⟨c0, c1, c2, c3, cell_keep h0 hb, cell_keep h1 hb, cell_keep h2 hb, cell_keep h3 hb, TmIn.keep hb t _ ht⟩, TmsIn.keep hb ts b (off + 4) hr⟩
end

theorem TmsIn.at {w : World} {b : Nat} : ∀ {ks : List Tm} {off : Nat}, TmsIn w ks b off → ∀ (j : Nat) (hj : j < ks.length),
    ∃ c0 c1 c2 c3, w.cell? ⟨b, off + j * 4, none⟩ = some c0 ∧ w.cell? ⟨b, off + j * 4 + 1, none⟩ = some c1 ∧ w.cell? ⟨b, off + j * 4 + 2, none⟩ = some c2 ∧ w.cell? ⟨b, off + j * 4 + 3, none⟩ = some c3 ∧ TmIn w ks[j] (.agg #[c0, c1, c2, c3])
  | [], _, _, j, hj => by simp at hj
  | t :: ts, off, h, 0, _ => by simpa using h.1
  | t :: ts, off, h, j + 1, hj => by
    have := TmsIn.at h.2 j (by simpa using hj)
    rw [show off + 4 + j * 4 = off + (j + 1) * 4 by omega] at this
    exact this

theorem tm_kid_lt {k n : Int} {s : ByteArray} {ks : List Tm} {t : Tm} (h : t ∈ ks) : SizeOf.sizeOf t < SizeOf.sizeOf (Tm.mk k s n ks) := by
  have := List.sizeOf_lt_of_mem h
  simp
  omega

/-- what is proved of a term where it is proved of its kids -/
theorem tm_ind {p : Tm → Prop} (h : ∀ k s n ks, (∀ t ∈ ks, p t) → p (.mk k s n ks)) (t : Tm) : p t := by
  have : ∀ m, ∀ t, SizeOf.sizeOf t < m → p t := by
    intro m
    induction m with
    | zero => intro t ht; omega
    | succ m ih =>
      intro t ht
      obtain ⟨k, s, n, ks⟩ := t
      exact h k s n ks fun t' h' => ih t' (by have := tm_kid_lt (k := k) (n := n) (s := s) h'; omega)
  exact this _ t (Nat.lt_succ_self _)

theorem wts_append (l m : List Tm) : wts (l ++ m) = wts l + wts m := by
  induction l with
  | nil => simp [wts, Tm.wt.wts]
  | cons t r ih => simp only [List.cons_append, wts, Tm.wt.wts] at *; omega
end Go.Proofs.YtenmhpalpfppmaoGreatDoor

/- How signs are read as terms: the specification's rule as a plain function. -/
namespace Go.Proofs.YtenmhpalpfppmaoGreatDoor
open Go.RowKit

/-- a sign, its place any number -/
structure Sn where
  kind : Int
  text : ByteArray
  num : Int
  pos : Int
  near : Bool

structure OpP where
  name : ByteArray
  prio : Int
  left : Int
  right : Int

def infixP (s : ByteArray) : Option OpP :=
  match s.data.toList with
  | [58, 45] | [45, 45, 62] => some ⟨s, 1200, 1199, 1199⟩
  | [59] => some ⟨s, 1100, 1099, 1100⟩
  | [45, 62] => some ⟨s, 1050, 1049, 1050⟩
  | [44] => some ⟨s, 1000, 999, 1000⟩
  | [61] | [92, 61] | [61, 61] | [105, 115] | [60] | [61, 58, 61] => some ⟨s, 700, 699, 699⟩
  | [43] | [45] => some ⟨s, 500, 500, 499⟩
  | [42] | [47, 47] => some ⟨s, 400, 400, 399⟩
  | _ => none
def prefixP (s : ByteArray) : Option OpP :=
  match s.data.toList with
  | [58, 45] => some ⟨s, 1200, 0, 1199⟩
  | [92, 43] => some ⟨s, 900, 0, 900⟩
  | [45] => some ⟨s, 200, 0, 200⟩
  | _ => none

/-- what the reader holds -/
structure Rd where
  at_ : Nat
  bad : Bool
  deep : Nat
  names : List ByteArray

def str (l : List UInt8) : ByteArray := ⟨l.toArray⟩
def noTm : Tm := .mk 0 ⟨#[]⟩ 0 []
def varTm (n : Nat) : Tm := .mk 1 ⟨#[]⟩ (n : Int) []
def atomTm (s : ByteArray) : Tm := .mk 2 s 0 []
def intTm (n : Int) : Tm := .mk 3 ⟨#[]⟩ n []
def structTm (s : ByteArray) (ks : List Tm) : Tm := .mk 4 s 0 ks

section
variable (L : List Sn)
def Rd.is (r : Rd) (kind : Int) (p : ByteArray → Bool) : Bool := !r.bad && match L[r.at_]? with | some s => decide (s.kind = kind) && p s.text | none => false
def anyT : ByteArray → Bool := fun _ => true
def eqT (l : List UInt8) : ByteArray → Bool := fun s => decide (s.data.toList = l)
def Rd.mark (r : Rd) (l : List UInt8) : Bool × Rd := if r.is L 4 (eqT l) then (true, { r with at_ := r.at_ + 1 }) else (false, r)
def Rd.wants (r : Rd) (l : List UInt8) : Rd := let x := r.mark L l; if x.1 then x.2 else { x.2 with bad := true }
def Rd.var (r : Rd) (s : ByteArray) : Tm × Rd :=
  match (if s.data.toList = [95] then none else r.names.findIdx? fun x => decide (x.data.toList = s.data.toList)) with
  | some i => (varTm i, r)
  | none => (varTm r.names.length, { r with names := r.names ++ [s] })

/-- terms with , between, up to a ) -/
def someP (tm : Int → Rd → Tm × Rd) : Nat → List Tm → Rd → List Tm × Rd
  | 0, ks, r => (ks, r)
  | n + 1, ks, r =>
    if r.bad then (ks, r) else
    let x := tm 999 r
    if 5 ≤ ks.length then (ks, { x.2 with bad := true }) else
    let m := x.2.mark L [41]
    if m.1 then (ks ++ [x.1], m.2) else someP tm n (ks ++ [x.1]) (m.2.wants L [44])
/-- the items of a list, its rest, behind its [ -/
def rowP (tm : Int → Rd → Tm × Rd) : Nat → List Tm → Rd → List Tm × Tm × Rd
  | 0, ks, r => (ks, atomTm (str [91, 93]), r)
  | n + 1, ks, r =>
    if r.bad then (ks, atomTm (str [91, 93]), r) else
    let x := tm 999 r
    let m := x.2.mark L [93]
    if m.1 then (ks ++ [x.1], atomTm (str [91, 93]), m.2) else
    let b := m.2.mark L [124]
    if b.1 then let y := tm 999 b.2; (ks ++ [x.1], y.1, y.2.wants L [93]) else rowP tm n (ks ++ [x.1]) (b.2.wants L [44])
def consTm (ks : List Tm) (last : Tm) : Tm := ks.foldr (fun x y => structTm (str [46]) [x, y]) last
def Rd.nearI (r : Rd) : Bool := match L[r.at_]?, L[r.at_ + 1]? with | some s, some u => decide (u.kind = 3) && decide (u.pos = wrap64 (s.pos + 1)) | _, _ => false
/-- a primary that begins with an atom, and its priority -/
def atomP (tm : Int → Rd → Tm × Rd) (n : Nat) (most : Int) (s : Sn) (r : Rd) : Tm × Int × Rd :=
  if s.near then let x := someP L tm n [] { r with at_ := r.at_ + 2 }; (structTm s.text x.1, 0, x.2)
  else if s.text.data.toList = [45] ∧ r.nearI L = true then (intTm (wrap64 (-(match L[r.at_ + 1]? with | some u => u.num | none => 0))), 0, { r with at_ := r.at_ + 2 })
  else match prefixP s.text with
    | some op => if op.prio ≤ most then let x := tm op.right { r with at_ := r.at_ + 1 }; (structTm s.text [x.1], op.prio, x.2) else (noTm, 0, { r with bad := true })
    | none => if (infixP s.text).isSome then (noTm, 0, { r with bad := true }) else (atomTm s.text, 0, { r with at_ := r.at_ + 1 })
/-- what stands in brackets, behind its ( -/
def roundP (tm : Int → Rd → Tm × Rd) (r : Rd) : Tm × Rd :=
  match L[r.at_]?, L[r.at_ + 1]? with
  | some s, some u => if !r.bad && decide (s.kind = 1) && decide (u.kind = 4) && eqT [41] u.text then (atomTm s.text, { r with at_ := r.at_ + 2 }) else let x := tm 1200 r; (x.1, x.2.wants L [41])
  | _, _ => let x := tm 1200 r; (x.1, x.2.wants L [41])
def primP (tm : Int → Rd → Tm × Rd) (n : Nat) (most : Int) (r : Rd) : Tm × Int × Rd :=
  if r.bad then (noTm, 0, r) else
  match L[r.at_]? with
  | none => (noTm, 0, { r with bad := true })
  | some s =>
    if s.kind = 1 then atomP L tm n most s r
    else if s.kind = 4 ∧ s.text.data.toList = [40] then let x := roundP L tm { r with at_ := r.at_ + 1 }; (x.1, 0, x.2)
    else if s.kind = 4 ∧ s.text.data.toList = [91] then
      let r1 := { r with at_ := r.at_ + 1 }
      let m := r1.mark L [93]
      if m.1 then (atomTm (str [91, 93]), 0, m.2) else let x := rowP L tm n [] m.2; (consTm x.1 x.2.1, 0, x.2.2)
    else if s.kind = 3 then (intTm s.num, 0, { r with at_ := r.at_ + 1 })
    else if s.kind = 2 then let x := Rd.var { r with at_ := r.at_ + 1 } s.text; (x.1, 0, x.2)
    else (noTm, 0, { r with bad := true })
/-- the infix sign that comes -/
def Rd.infix (r : Rd) : Option OpP :=
  if r.bad then none else
  match L[r.at_]? with
  | none => none
  | some s => if s.kind = 4 ∧ s.text.data.toList = [44] then infixP (str [44]) else if s.kind = 1 ∧ s.near = false then infixP s.text else none
def infL (tm : Int → Rd → Tm × Rd) (most : Int) : Nat → Tm → Int → Rd → Tm × Rd
  | 0, t, _, r => (t, r)
  | n + 1, t, prio, r =>
    match r.infix L with
    | none => (t, r)
    | some op => if op.prio > most ∨ op.left < prio then (t, r) else
      let y := tm op.right { r with at_ := r.at_ + 1 }
      infL tm most n (structTm op.name [t, y.1]) op.prio y.2
/-- a term of at most a priority -/
def termP : Nat → Int → Rd → Tm × Rd
  | 0, _, r => (noTm, { r with bad := true, deep := r.deep + 1 })
  | d + 1, most, r =>
    if r.bad then (noTm, { r with deep := r.deep + 1 }) else
    let p := primP L (termP d) (L.length + 2) most { r with deep := r.deep + 1 }
    let q := infL L (termP d) most (L.length + 2) p.1 p.2.1 p.2.2
    (q.1, { q.2 with deep := q.2.deep - 1 })
end
end Go.Proofs.YtenmhpalpfppmaoGreatDoor
