/- Four texts in one. -/
import Derived.WalkKit
import Derived.WalkSpells
import Derived.ProofKit
import Derived.Test.YtmhmlkdoaojimapDoorMrg1
import Derived.Test.YtmhmlkdoaojimapDoorMrg13
import Derived.Test.YtmhmlkdoaojimapDoorRows
/- Which names are right. Plain. -/
namespace Go.Proofs.YtmhmlkdoaojimapDoor
open Go.RowKit

def charOk (c : UInt8) : Bool := !(decide (c.toNat < 33) || decide (126 < c.toNat) || decide (c.toNat = 39) || decide (c.toNat = 34))
def nameOk (s : ByteArray) : Bool := s.data.toList.all charOk && decide (1 ≤ s.size ∧ s.size ≤ 20)

theorem take_at (s : ByteArray) (k : Nat) (h : k < s.size) : s.data.toList.take (k + 1) = s.data.toList.take k ++ [s[k]] := by
  rw [List.take_succ_eq_append_getElem (by simpa using h)]; rfl
theorem mem_s (s : ByteArray) (k : Nat) (h : k < s.size) : s[k] ∈ s.data.toList := by
  show s.data[k] ∈ s.data.toList
  simp

end Go.Proofs.YtmhmlkdoaojimapDoor

/- Which terms are right: the plain rule. -/
namespace Go.Proofs.YtmhmlkdoaojimapDoor
open Go.RowKit

def oneT (k : Int) (s : ByteArray) (n : Int) (l : Nat) : Bool :=
  if k = 1 then decide (0 ≤ n ∧ n ≤ 99999) && decide (s.size = 0) && decide (l = 0)
  else if k = 2 then nameOk s && decide (n = 0) && decide (l = 0)
  else if k = 3 then decide (-999999999 ≤ n ∧ n ≤ 999999999) && decide (s.size = 0) && decide (l = 0)
  else if k = 4 then nameOk s && decide (n = 0) && decide (1 ≤ l ∧ l ≤ 5)
  else false
def Tm.right : Tm → Nat → Bool
  | .mk k s n ks, d => decide (d ≤ 40) && oneT k s n ks.length && rights ks (d + 1)
where rights : List Tm → Nat → Bool
  | [], _ => true
  | t :: ts, d => t.right d && rights ts d
abbrev rights := Tm.right.rights
def Tm.ok (t : Tm) : Bool := decide (t.n ≤ 400) && t.right 1
theorem right_mk (k : Int) (s : ByteArray) (n : Int) (ks : List Tm) (d : Nat) : (Tm.mk k s n ks).right d = (decide (d ≤ 40) && oneT k s n ks.length && rights ks (d + 1)) := by simp [Tm.right, rights]
theorem rights_all (ks : List Tm) (d : Nat) : rights ks d = ks.all fun t => t.right d := by
  induction ks with
  | nil => rfl
  | cons t r ih => simp only [rights, Tm.right.rights, List.all_cons] at *; rw [ih]

theorem ret_bool {a b : Bool} (h : a = b) : Ending.returned (.bool a) = .returned (.bool b) := by rw [h]

theorem rights_take {ks : List Tm} {d j : Nat} (hj : j < ks.length) (h : rights (ks.take j) d = true) (h1 : ks[j].right d = true) : rights (ks.take (j + 1)) d = true := by
  rw [rights_all] at *
  rw [List.take_succ_eq_append_getElem hj, List.all_append, h]
  simp [h1]
theorem rights_no {ks : List Tm} {d j : Nat} (hj : j < ks.length) (h1 : ks[j].right d = false) : rights ks d = false := by
  rw [rights_all, List.all_eq_false]
  exact ⟨ks[j], List.getElem_mem hj, by simp [h1]⟩

theorem empty_of {s : ByteArray} (h : s.size = 0) : s = ⟨#[]⟩ := by
  apply ByteArray.ext
  exact Array.eq_empty_of_size_eq_zero h
theorem not_empty {s : ByteArray} (h : s.size ≠ 0) : ¬ s.toList = [] := by
  intro e
  apply h
  have := congrArg List.length e
  rw [ByteArray.toList_eq, Array.length_toList] at this
  exact this

theorem nat0 (l : Nat) : ((l : Int) == 0) = decide (l = 0) := by
  by_cases h : l = 0
  · subst h; rfl
  · rw [decide_eq_false h, beq_eq_false_iff_ne]; omega

theorem tm_shape {w : World} {t : Tm} {v : Value} (h : TmIn w t v) : ∃ k s n ao len cap, v = .agg #[.int .i64 k, .string s, .int .i64 n, .slice ao len cap] := by
  obtain ⟨k, s, n, ks⟩ := t
  unfold TmIn at h
  obtain ⟨ao, cap, rfl, _⟩ := h
  exact ⟨_, _, _, _, _, _, rfl⟩

end Go.Proofs.YtmhmlkdoaojimapDoor

/- impl.nameOk. -/
namespace Go.Proofs.YtmhmlkdoaojimapDoor
open Go.RowKit

theorem implName (s : ByteArray) (hs : s.size ≤ maxLen) (w : World) :
    Calls Tryd.prog 106 #[.string s] w fun e w' => e = .returned (.bool (nameOk s)) ∧ w' = w := by
  unfold maxLen at hs
  by_cases h1 : s.size < 1
  · have HF : Hid (nameOk s = false) := by
      show _ = _
      unfold nameOk
      rw [Bool.and_eq_false_iff]; right
      exact decide_eq_false (by omega)
    go_enter Tryd.func106, Tryd.ntmps106
    go_wp2
    go_ret
    exact ⟨by rw [HF.out]; rfl, rfl⟩
  by_cases h20 : 20 < s.size
  · have HF : Hid (nameOk s = false) := by
      show _ = _
      unfold nameOk
      rw [Bool.and_eq_false_iff]; right
      exact decide_eq_false (by omega)
    go_enter Tryd.func106, Tryd.ntmps106
    go_wp2
    go_ret
    exact ⟨by rw [HF.out]; rfl, rfl⟩
  go_enter Tryd.func106, Tryd.ntmps106
  go_wp2
  go_loopw [3] (fun i wr => wr = w ∧ ∃ k : Nat, k ≤ s.size ∧ i = .int .i64 (k : Int) ∧ Hid ((s.data.toList.take k).all charOk = true)) (fun i _ => s.size - (intOf i).toNat)
  case atStart => exact ⟨rfl, 0, by omega, rfl, by show _ = _; simp⟩
  case round =>
    obtain ⟨rfl, k, hk, rfl, hp⟩ := hrel
    by_cases hlt : k < s.size
    · have hc := s[k].toNat_lt
      by_cases hb : charOk s[k] = true
      · have hp' : Hid ((s.data.toList.take (k + 1)).all charOk = true) := by show _ = _; rw [take_at s k hlt, List.all_append, hp.out]; simp [hb]
        have h4 : 33 ≤ s[k].toNat ∧ s[k].toNat ≤ 126 ∧ s[k].toNat ≠ 39 ∧ s[k].toNat ≠ 34 := by
          unfold charOk at hb; simp at hb; omega
        obtain ⟨b1, b2, b3, b4⟩ := h4
        have e3 : ((s[k].toNat : Int) == 39) = false := beq_eq_false_iff_ne.2 (by omega)
        have e4 : ((s[k].toNat : Int) == 34) = false := beq_eq_false_iff_ne.2 (by omega)
        clear hp hb
        go_wp2
        go_roundw
        case rel => exact ⟨trivial, k + 1, by omega, by go_num, hp'⟩
        case measure => simp [intOf]; omega
      · have hf : nameOk s = false := by
          unfold nameOk
          rw [Bool.and_eq_false_iff]; left
          rw [List.all_eq_false]
          exact ⟨s[k], mem_s s k hlt, hb⟩
        have HF : Hid _ := hf
        have h4 : s[k].toNat < 33 ∨ (33 ≤ s[k].toNat ∧ 126 < s[k].toNat) ∨ s[k].toNat = 39 ∨ s[k].toNat = 34 := by
          unfold charOk at hb; simp at hb; omega
        clear hp hb hf
        rcases h4 with h4 | ⟨h4, h5⟩ | h4 | h4
        all_goals go_wp2; go_ret; exact ⟨by rw [HF.out]; rfl, rfl⟩
    · have hf : nameOk s = true := by
        have := hp.out
        rw [List.take_of_length_le (by simp; omega)] at this
        unfold nameOk
        rw [this, Bool.true_and]
        exact decide_eq_true (by omega)
      have HF : Hid _ := hf
      clear hp hf
      go_wp2
      go_ret
      exact ⟨by rw [HF.out]; rfl, rfl⟩

end Go.Proofs.YtmhmlkdoaojimapDoor

/- A term told by its Kind: formOf, and what is right of each form but for its kids (the code's). -/
namespace Go.Proofs.YtmhmlkdoaojimapDoor
open Go.RowKit

def formV (k : Int) (s : ByteArray) (n : Int) (ao : Option Addr) (l cap : Nat) : Value :=
  if k = 1 ∧ s.size = 0 ∧ l = 0 then .iface 120 (.agg #[.int .i64 n])
  else if k = 3 ∧ s.size = 0 ∧ l = 0 then .iface 143 (.agg #[.int .i64 n])
  else if k = 2 ∧ n = 0 ∧ l = 0 then .iface 145 (.agg #[.string s])
  else if k = 4 ∧ n = 0 then .iface 122 (.agg #[.string s, .slice ao l cap])
  else .iface 146 (.agg #[])
theorem ret_val {a b : Value} (h : a = b) : Ending.returned a = .returned b := by rw [h]

theorem implForm (k : Int) (s : ByteArray) (n : Int) (ao : Option Addr) (l cap : Nat) (hl : l ≤ maxLen) (w : World) :
    Calls Tryd.prog 82 #[.agg #[.int .i64 k, .string s, .int .i64 n, .slice ao l cap]] w fun e w' => e = .returned (formV k s n ao l cap) ∧ Below w.heap.size w w' := by
  have hb0 : Below w.heap.size w (w.alloc (.cells #[.int .i64 k, .string s, .int .i64 n, .slice ao l cap] 46)) := (Below.refl _ _).alloc (Nat.le_refl _) _
  unfold maxLen at hl
  by_cases h1 : k = 1
  · subst h1
    by_cases hz : s.size = 0
    · obtain rfl := empty_of hz
      clear hz
      by_cases h0 : l = 0
      · subst h0
        go_enter Tryd.func82, Tryd.ntmps82
        go_wp2
        go_ret
        exact ⟨ret_val (by simp [formV, show (⟨#[]⟩ : ByteArray).size = 0 from rfl]), hb0⟩
      · have e0 : ((l : Int) == 0) = false := beq_eq_false_iff_ne.2 (by omega)
        go_enter Tryd.func82, Tryd.ntmps82
        go_wp2
        go_ret
        exact ⟨ret_val (by simp [formV, h0]), hb0⟩
    · have hq := not_empty hz
      go_enter Tryd.func82, Tryd.ntmps82
      go_wp2
      go_ret
      exact ⟨ret_val (by simp [formV, hz]), hb0⟩
  by_cases h3 : k = 3
  · subst h3
    by_cases hz : s.size = 0
    · obtain rfl := empty_of hz
      clear hz
      by_cases h0 : l = 0
      · subst h0
        go_enter Tryd.func82, Tryd.ntmps82
        go_wp2
        go_ret
        exact ⟨ret_val (by simp [formV, show (⟨#[]⟩ : ByteArray).size = 0 from rfl]), hb0⟩
      · have e0 : ((l : Int) == 0) = false := beq_eq_false_iff_ne.2 (by omega)
        go_enter Tryd.func82, Tryd.ntmps82
        go_wp2
        go_ret
        exact ⟨ret_val (by simp [formV, h0]), hb0⟩
    · have hq := not_empty hz
      go_enter Tryd.func82, Tryd.ntmps82
      go_wp2
      go_ret
      exact ⟨ret_val (by simp [formV, hz]), hb0⟩
  by_cases h2 : k = 2
  · subst h2
    by_cases hz : n = 0
    · subst hz
      by_cases h0 : l = 0
      · subst h0
        go_enter Tryd.func82, Tryd.ntmps82
        go_wp2
        go_ret
        exact ⟨ret_val (by simp [formV]), hb0⟩
      · have e0 : ((l : Int) == 0) = false := beq_eq_false_iff_ne.2 (by omega)
        go_enter Tryd.func82, Tryd.ntmps82
        go_wp2
        go_ret
        exact ⟨ret_val (by simp [formV, h0]), hb0⟩
    · have e0 : (n == 0) = false := beq_eq_false_iff_ne.2 hz
      go_enter Tryd.func82, Tryd.ntmps82
      go_wp2
      go_ret
      exact ⟨ret_val (by simp [formV, hz]), hb0⟩
  by_cases h4 : k = 4
  · subst h4
    by_cases hz : n = 0
    · subst hz
      go_enter Tryd.func82, Tryd.ntmps82
      go_wp2
      go_ret
      exact ⟨ret_val (by simp [formV]), hb0⟩
    · have e0 : (n == 0) = false := beq_eq_false_iff_ne.2 hz
      go_enter Tryd.func82, Tryd.ntmps82
      go_wp2
      go_ret
      exact ⟨ret_val (by simp [formV, hz]), hb0⟩
  have e1 : (k == 1) = false := beq_eq_false_iff_ne.2 h1
  have e2 : (k == 2) = false := beq_eq_false_iff_ne.2 h2
  have e3 : (k == 3) = false := beq_eq_false_iff_ne.2 h3
  have e4 : (k == 4) = false := beq_eq_false_iff_ne.2 h4
  go_enter Tryd.func82, Tryd.ntmps82
  go_wp2
  go_ret
  exact ⟨ret_val (by simp [formV, h1, h2, h3, h4]), hb0⟩

theorem rightStruct (s : ByteArray) (hs : s.size ≤ maxLen) (ao : Option Addr) (l cap : Nat) (hl : l ≤ maxLen) (w : World) :
    Calls Tryd.prog 92 #[.agg #[.string s, .slice ao l cap]] w fun e w' => e = .returned (.bool (nameOk s && decide (1 ≤ l ∧ l ≤ 5))) ∧ Below w.heap.size w w' := by
  have hb0 : Below w.heap.size w (w.alloc (.cells #[.string s, .slice ao l cap] 122)) := (Below.refl _ _).alloc (Nat.le_refl _) _
  have HN : Hid (∀ w, Calls Tryd.prog 106 #[.string s] w fun e w' => e = .returned (.bool (nameOk s)) ∧ w' = w) := implName s hs
  unfold maxLen at hl
  clear hs
  cases hN : nameOk s with
  | true =>
    rw [hN] at HN
    by_cases h1 : 1 ≤ l
    · go_enter Tryd.func92, Tryd.ntmps92
      go_wp2_with (go_at_call 106; refine (Calls.mono (HN.out _) ?_); rintro e w1 ⟨rfl, rfl⟩)
      go_ret
      exact ⟨ret_bool (by rw [Bool.true_and]; congr 1; apply propext; omega), hb0⟩
    · go_enter Tryd.func92, Tryd.ntmps92
      go_wp2_with (go_at_call 106; refine (Calls.mono (HN.out _) ?_); rintro e w1 ⟨rfl, rfl⟩)
      go_ret
      exact ⟨ret_bool (by first | rfl | (rw [Bool.true_and]; symm; exact decide_eq_false (by omega))), hb0⟩
  | false =>
    rw [hN] at HN
    go_enter Tryd.func92, Tryd.ntmps92
    go_wp2_with (go_at_call 106; refine (Calls.mono (HN.out _) ?_); rintro e w1 ⟨rfl, rfl⟩)
    go_ret
    exact ⟨ret_bool (by rw [Bool.false_and]), hb0⟩

theorem rightAtom (s : ByteArray) (hs : s.size ≤ maxLen) (w : World) :
    Calls Tryd.prog 147 #[.agg #[.string s]] w fun e w' => e = .returned (.bool (nameOk s)) ∧ Below w.heap.size w w' := by
  have hb0 : Below w.heap.size w (w.alloc (.cells #[.string s] 145)) := (Below.refl _ _).alloc (Nat.le_refl _) _
  have HN : Hid (∀ w, Calls Tryd.prog 106 #[.string s] w fun e w' => e = .returned (.bool (nameOk s)) ∧ w' = w) := implName s hs
  clear hs
  go_enter Tryd.func147, Tryd.ntmps147
  go_wp2_with (go_at_call 106; refine (Calls.mono (HN.out _) ?_); rintro e w1 ⟨rfl, rfl⟩)
  go_ret
  exact ⟨rfl, hb0⟩

theorem rightNo (w : World) :
    Calls Tryd.prog 149 #[.agg #[]] w fun e w' => e = .returned (.bool false) ∧ Below w.heap.size w w' := by
  go_enter Tryd.func149, Tryd.ntmps149
  go_wp2
  go_ret
  exact ⟨rfl, (Below.refl _ _).alloc (Nat.le_refl _) _⟩

theorem rightVar (n : Int) (w : World) :
    Calls Tryd.prog 142 #[.agg #[.int .i64 n]] w fun e w' => e = .returned (.bool (decide (0 ≤ n ∧ n ≤ 99999))) ∧ Below w.heap.size w w' := by
  have hb0 : Below w.heap.size w (w.alloc (.cells #[.int .i64 n] 120)) := (Below.refl _ _).alloc (Nat.le_refl _) _
  by_cases h1 : 0 ≤ n
  · go_enter Tryd.func142, Tryd.ntmps142
    go_wp2
    go_ret
    exact ⟨ret_bool (by congr 1; apply propext; omega), hb0⟩
  · go_enter Tryd.func142, Tryd.ntmps142
    go_wp2
    go_ret
    exact ⟨ret_bool (by first | rfl | (simp; omega) | simp [h1]), hb0⟩

theorem rightInt (n : Int) (w : World) :
    Calls Tryd.prog 145 #[.agg #[.int .i64 n]] w fun e w' => e = .returned (.bool (decide (-999999999 ≤ n ∧ n ≤ 999999999))) ∧ Below w.heap.size w w' := by
  have hb0 : Below w.heap.size w (w.alloc (.cells #[.int .i64 n] 143)) := (Below.refl _ _).alloc (Nat.le_refl _) _
  by_cases h1 : -999999999 ≤ n
  · go_enter Tryd.func145, Tryd.ntmps145
    go_wp2
    go_ret
    exact ⟨ret_bool (by congr 1; apply propext; omega), hb0⟩
  · go_enter Tryd.func145, Tryd.ntmps145
    go_wp2
    go_ret
    exact ⟨ret_bool (by first | rfl | (simp; omega) | simp [h1]), hb0⟩

@[go_sem] theorem as_var_var (v : Value) (w : World) : (Instr.typeAssert (.iface 120 v) 117 120 true).run Tryd.prog w = .ok (.tuple #[v, .bool true]) w := by kernel_rfl
@[go_sem] theorem as_int_var (v : Value) (w : World) : (Instr.typeAssert (.iface 143 v) 117 120 true).run Tryd.prog w = .ok (.tuple #[.agg #[.int .i64 0], .bool false]) w := by kernel_rfl
@[go_sem] theorem as_atom_var (v : Value) (w : World) : (Instr.typeAssert (.iface 145 v) 117 120 true).run Tryd.prog w = .ok (.tuple #[.agg #[.int .i64 0], .bool false]) w := by kernel_rfl
@[go_sem] theorem as_struct_var (v : Value) (w : World) : (Instr.typeAssert (.iface 122 v) 117 120 true).run Tryd.prog w = .ok (.tuple #[.agg #[.int .i64 0], .bool false]) w := by kernel_rfl
@[go_sem] theorem as_no_var (v : Value) (w : World) : (Instr.typeAssert (.iface 146 v) 117 120 true).run Tryd.prog w = .ok (.tuple #[.agg #[.int .i64 0], .bool false]) w := by kernel_rfl
@[go_sem] theorem as_var_int (v : Value) (w : World) : (Instr.typeAssert (.iface 120 v) 117 143 true).run Tryd.prog w = .ok (.tuple #[.agg #[.int .i64 0], .bool false]) w := by kernel_rfl
@[go_sem] theorem as_int_int (v : Value) (w : World) : (Instr.typeAssert (.iface 143 v) 117 143 true).run Tryd.prog w = .ok (.tuple #[v, .bool true]) w := by kernel_rfl
@[go_sem] theorem as_atom_int (v : Value) (w : World) : (Instr.typeAssert (.iface 145 v) 117 143 true).run Tryd.prog w = .ok (.tuple #[.agg #[.int .i64 0], .bool false]) w := by kernel_rfl
@[go_sem] theorem as_struct_int (v : Value) (w : World) : (Instr.typeAssert (.iface 122 v) 117 143 true).run Tryd.prog w = .ok (.tuple #[.agg #[.int .i64 0], .bool false]) w := by kernel_rfl
@[go_sem] theorem as_no_int (v : Value) (w : World) : (Instr.typeAssert (.iface 146 v) 117 143 true).run Tryd.prog w = .ok (.tuple #[.agg #[.int .i64 0], .bool false]) w := by kernel_rfl
@[go_sem] theorem as_var_atom (v : Value) (w : World) : (Instr.typeAssert (.iface 120 v) 117 145 true).run Tryd.prog w = .ok (.tuple #[.agg #[.string ⟨#[]⟩], .bool false]) w := by kernel_rfl
@[go_sem] theorem as_int_atom (v : Value) (w : World) : (Instr.typeAssert (.iface 143 v) 117 145 true).run Tryd.prog w = .ok (.tuple #[.agg #[.string ⟨#[]⟩], .bool false]) w := by kernel_rfl
@[go_sem] theorem as_atom_atom (v : Value) (w : World) : (Instr.typeAssert (.iface 145 v) 117 145 true).run Tryd.prog w = .ok (.tuple #[v, .bool true]) w := by kernel_rfl
@[go_sem] theorem as_struct_atom (v : Value) (w : World) : (Instr.typeAssert (.iface 122 v) 117 145 true).run Tryd.prog w = .ok (.tuple #[.agg #[.string ⟨#[]⟩], .bool false]) w := by kernel_rfl
@[go_sem] theorem as_no_atom (v : Value) (w : World) : (Instr.typeAssert (.iface 146 v) 117 145 true).run Tryd.prog w = .ok (.tuple #[.agg #[.string ⟨#[]⟩], .bool false]) w := by kernel_rfl
@[go_sem] theorem as_var_struct (v : Value) (w : World) : (Instr.typeAssert (.iface 120 v) 117 122 true).run Tryd.prog w = .ok (.tuple #[.agg #[.string ⟨#[]⟩, .slice none 0 0], .bool false]) w := by kernel_rfl
@[go_sem] theorem as_int_struct (v : Value) (w : World) : (Instr.typeAssert (.iface 143 v) 117 122 true).run Tryd.prog w = .ok (.tuple #[.agg #[.string ⟨#[]⟩, .slice none 0 0], .bool false]) w := by kernel_rfl
@[go_sem] theorem as_atom_struct (v : Value) (w : World) : (Instr.typeAssert (.iface 145 v) 117 122 true).run Tryd.prog w = .ok (.tuple #[.agg #[.string ⟨#[]⟩, .slice none 0 0], .bool false]) w := by kernel_rfl
@[go_sem] theorem as_struct_struct (v : Value) (w : World) : (Instr.typeAssert (.iface 122 v) 117 122 true).run Tryd.prog w = .ok (.tuple #[v, .bool true]) w := by kernel_rfl
@[go_sem] theorem as_no_struct (v : Value) (w : World) : (Instr.typeAssert (.iface 146 v) 117 122 true).run Tryd.prog w = .ok (.tuple #[.agg #[.string ⟨#[]⟩, .slice none 0 0], .bool false]) w := by kernel_rfl
@[go_sem] theorem me_var_right (f : Nat) (n : Int) (w : World) : (method (f + 1) 120 (.agg #[.int .i64 n]) "loop.example/g00469/impl.right").run Tryd.prog w = .ok (142, .agg #[.int .i64 n]) w := by kernel_rfl
@[go_sem] theorem me_var_rank (f : Nat) (n : Int) (w : World) : (method (f + 1) 120 (.agg #[.int .i64 n]) "loop.example/g00469/impl.rank").run Tryd.prog w = .ok (141, .agg #[.int .i64 n]) w := by kernel_rfl
@[go_sem] theorem me_int_right (f : Nat) (n : Int) (w : World) : (method (f + 1) 143 (.agg #[.int .i64 n]) "loop.example/g00469/impl.right").run Tryd.prog w = .ok (145, .agg #[.int .i64 n]) w := by kernel_rfl
@[go_sem] theorem me_int_rank (f : Nat) (n : Int) (w : World) : (method (f + 1) 143 (.agg #[.int .i64 n]) "loop.example/g00469/impl.rank").run Tryd.prog w = .ok (144, .agg #[.int .i64 n]) w := by kernel_rfl
@[go_sem] theorem me_atom_right (f : Nat) (s : ByteArray) (w : World) : (method (f + 1) 145 (.agg #[.string s]) "loop.example/g00469/impl.right").run Tryd.prog w = .ok (147, .agg #[.string s]) w := by kernel_rfl
@[go_sem] theorem me_atom_rank (f : Nat) (s : ByteArray) (w : World) : (method (f + 1) 145 (.agg #[.string s]) "loop.example/g00469/impl.rank").run Tryd.prog w = .ok (146, .agg #[.string s]) w := by kernel_rfl
@[go_sem] theorem me_struct_right (f : Nat) (s : ByteArray) (ao : Option Addr) (l cap : Nat) (w : World) : (method (f + 1) 122 (.agg #[.string s, .slice ao l cap]) "loop.example/g00469/impl.right").run Tryd.prog w = .ok (92, .agg #[.string s, .slice ao l cap]) w := by kernel_rfl
@[go_sem] theorem me_struct_rank (f : Nat) (s : ByteArray) (ao : Option Addr) (l cap : Nat) (w : World) : (method (f + 1) 122 (.agg #[.string s, .slice ao l cap]) "loop.example/g00469/impl.rank").run Tryd.prog w = .ok (143, .agg #[.string s, .slice ao l cap]) w := by kernel_rfl
@[go_sem] theorem me_no_right (f : Nat)  (w : World) : (method (f + 1) 146 (.agg #[]) "loop.example/g00469/impl.right").run Tryd.prog w = .ok (149, .agg #[]) w := by kernel_rfl
@[go_sem] theorem me_no_rank (f : Nat)  (w : World) : (method (f + 1) 146 (.agg #[]) "loop.example/g00469/impl.rank").run Tryd.prog w = .ok (148, .agg #[]) w := by kernel_rfl
end Go.Proofs.YtmhmlkdoaojimapDoor
