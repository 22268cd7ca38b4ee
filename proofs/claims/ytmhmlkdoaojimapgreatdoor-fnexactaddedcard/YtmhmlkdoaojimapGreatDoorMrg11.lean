/- Four texts in one. -/
import Derived.Test.YtmhmlkdoaojimapGreatDoorMrg1
import Derived.Test.YtmhmlkdoaojimapGreatDoorMrg9
import Derived.Test.YtmhmlkdoaojimapGreatDoorMrg10
import Derived.ProofKit
import Derived.Test.YtmhmlkdoaojimapGreatDoorRows
import Derived.Test.YtmhmlkdoaojimapGreatDoorMrg3
import Derived.Deep.RegionWith
/- Which terms are right: the plain rule. -/
namespace Go.Proofs.YtmhmlkdoaojimapGreatDoor
open Go.RowKit

def oneT (k : Int) (s : ByteArray) (n : Int) (l : Nat) : Bool :=
  if k = 1 then decide (0 ≤ n ∧ n ≤ 99999) && decide (s.size = 0) && decide (l = 0)
  else if k = 2 then nameOk s && decide (n = 0) && decide (l = 0)
  else if k = 3 then decide (-999999999 ≤ n ∧ n ≤ 999999999) && decide (s.size = 0) && decide (l = 0)
  else if k = 4 then nameOk s && decide (n = 0) && decide (1 ≤ l ∧ l ≤ 5)
  else false
def Tm.right : Tm → Nat → Bool
  | .mk k s n ks, d => decide (d ≤ 40) && oneT k s n ks.length && rights ks (d + 1)
where rights : List Tm → Nat → Bool
  | [], _ => true
  | t :: ts, d => t.right d && rights ts d
abbrev rights := Tm.right.rights
def Tm.ok (t : Tm) : Bool := decide (t.n ≤ 400) && t.right 1
theorem right_mk (k : Int) (s : ByteArray) (n : Int) (ks : List Tm) (d : Nat) : (Tm.mk k s n ks).right d = (decide (d ≤ 40) && oneT k s n ks.length && rights ks (d + 1)) := by simp [Tm.right, rights]
theorem rights_all (ks : List Tm) (d : Nat) : rights ks d = ks.all fun t => t.right d := by
  induction ks with
  | nil => rfl
  | cons t r ih => simp only [rights, Tm.right.rights, List.all_cons] at *; rw [ih]

theorem ret_bool {a b : Bool} (h : a = b) : Ending.returned (.bool a) = .returned (.bool b) := by rw [h]

theorem rights_take {ks : List Tm} {d j : Nat} (hj : j < ks.length) (h : rights (ks.take j) d = true) (h1 : ks[j].right d = true) : rights (ks.take (j + 1)) d = true := by
  rw [rights_all] at *
  rw [List.take_succ_eq_append_getElem hj, List.all_append, h]
  simp [h1]
theorem rights_no {ks : List Tm} {d j : Nat} (hj : j < ks.length) (h1 : ks[j].right d = false) : rights ks d = false := by
  rw [rights_all, List.all_eq_false]
  exact ⟨ks[j], List.getElem_mem hj, by simp [h1]⟩

theorem empty_of {s : ByteArray} (h : s.size = 0) : s = ⟨#[]⟩ := by
  apply ByteArray.ext
  exact Array.eq_empty_of_size_eq_zero h
theorem not_empty {s : ByteArray} (h : s.size ≠ 0) : ¬ s.toList = [] := by
  intro e
  apply h
  have := congrArg List.length e
  rw [ByteArray.toList_eq, Array.length_toList] at this
  exact this

theorem nat0 (l : Nat) : ((l : Int) == 0) = decide (l = 0) := by
  by_cases h : l = 0
  · subst h; rfl
  · rw [decide_eq_false h, beq_eq_false_iff_ne]; omega

theorem tm_shape {w : World} {t : Tm} {v : Value} (h : TmIn w t v) : ∃ k s n ao len cap, v = .agg #[.int .i64 k, .string s, .int .i64 n, .slice ao len cap] := by
  obtain ⟨k, s, n, ks⟩ := t
  unfold TmIn at h
  obtain ⟨ao, cap, rfl, _⟩ := h
  exact ⟨_, _, _, _, _, _, rfl⟩

end Go.Proofs.YtmhmlkdoaojimapGreatDoor

/- impl.nameOk. -/
namespace Go.Proofs.YtmhmlkdoaojimapGreatDoor
open Go.RowKit

theorem implName (s : ByteArray) (hs : s.size ≤ maxLen) (w : World) :
    Calls Tryz.prog 78 #[.string s] w fun e w' => e = .returned (.bool (nameOk s)) ∧ w' = w := by
  unfold maxLen at hs
  by_cases h1 : s.size < 1
  · have HF : Hid (nameOk s = false) := by
      show _ = _
      unfold nameOk
      rw [Bool.and_eq_false_iff]; right
      exact decide_eq_false (by omega)
    go_enter Tryz.func78, Tryz.ntmps78
    go_wp2
    go_ret
    exact ⟨by rw [HF.out]; rfl, rfl⟩
  by_cases h20 : 20 < s.size
  · have HF : Hid (nameOk s = false) := by
      show _ = _
      unfold nameOk
      rw [Bool.and_eq_false_iff]; right
      exact decide_eq_false (by omega)
    go_enter Tryz.func78, Tryz.ntmps78
    go_wp2
    go_ret
    exact ⟨by rw [HF.out]; rfl, rfl⟩
  go_enter Tryz.func78, Tryz.ntmps78
  go_wp2
  go_loopw [3] (fun i wr => wr = w ∧ ∃ k : Nat, k ≤ s.size ∧ i = .int .i64 (k : Int) ∧ Hid ((s.data.toList.take k).all charOk = true)) (fun i _ => s.size - (intOf i).toNat)
  case atStart => exact ⟨rfl, 0, by omega, rfl, by show _ = _; simp⟩
  case round =>
    obtain ⟨rfl, k, hk, rfl, hp⟩ := hrel
    by_cases hlt : k < s.size
    · have hc := s[k].toNat_lt
      by_cases hb : charOk s[k] = true
      · have hp' : Hid ((s.data.toList.take (k + 1)).all charOk = true) := by show _ = _; rw [take_at s k hlt, List.all_append, hp.out]; simp [hb]
        have h4 : 33 ≤ s[k].toNat ∧ s[k].toNat ≤ 126 ∧ s[k].toNat ≠ 39 ∧ s[k].toNat ≠ 34 := by
          unfold charOk at hb; simp at hb; omega
        obtain ⟨b1, b2, b3, b4⟩ := h4
        have e3 : ((s[k].toNat : Int) == 39) = false := beq_eq_false_iff_ne.2 (by omega)
        have e4 : ((s[k].toNat : Int) == 34) = false := beq_eq_false_iff_ne.2 (by omega)
        clear hp hb
        go_wp2
        go_roundw
        case rel => exact ⟨trivial, k + 1, by omega, by go_num, hp'⟩
        case measure => simp [intOf]; omega
      · have hf : nameOk s = false := by
          unfold nameOk
          rw [Bool.and_eq_false_iff]; left
          rw [List.all_eq_false]
          exact ⟨s[k], mem_s s k hlt, hb⟩
        have HF : Hid _ := hf
        have h4 : s[k].toNat < 33 ∨ (33 ≤ s[k].toNat ∧ 126 < s[k].toNat) ∨ s[k].toNat = 39 ∨ s[k].toNat = 34 := by
          unfold charOk at hb; simp at hb; omega
        clear hp hb hf
        rcases h4 with h4 | ⟨h4, h5⟩ | h4 | h4
        all_goals go_wp2; go_ret; exact ⟨by rw [HF.out]; rfl, rfl⟩
    · have hf : nameOk s = true := by
        have := hp.out
        rw [List.take_of_length_le (by simp; omega)] at this
        unfold nameOk
        rw [this, Bool.true_and]
        exact decide_eq_true (by omega)
      have HF : Hid _ := hf
      clear hp hf
      go_wp2
      go_ret
      exact ⟨by rw [HF.out]; rfl, rfl⟩

end Go.Proofs.YtmhmlkdoaojimapGreatDoor

/- A term told by its Kind: formOf, and what is right of each form but for its kids (the code's). -/
namespace Go.Proofs.YtmhmlkdoaojimapGreatDoor
open Go.RowKit

def formV (k : Int) (s : ByteArray) (n : Int) (ao : Option Addr) (l cap : Nat) : Value :=
  if k = 1 ∧ s.size = 0 ∧ l = 0 then .iface 106 (.agg #[.int .i64 n])
  else if k = 3 ∧ s.size = 0 ∧ l = 0 then .iface 107 (.agg #[.int .i64 n])
  else if k = 2 ∧ n = 0 ∧ l = 0 then .iface 109 (.agg #[.string s])
  else if k = 4 ∧ n = 0 then .iface 101 (.agg #[.string s, .slice ao l cap])
  else .iface 111 (.agg #[])
theorem ret_val {a b : Value} (h : a = b) : Ending.returned a = .returned b := by rw [h]

theorem implForm (k : Int) (s : ByteArray) (n : Int) (ao : Option Addr) (l cap : Nat) (hl : l ≤ maxLen) (w : World) :
    Calls Tryz.prog 70 #[.agg #[.int .i64 k, .string s, .int .i64 n, .slice ao l cap]] w fun e w' => e = .returned (formV k s n ao l cap) ∧ Below w.heap.size w w' := by
  have hb0 : Below w.heap.size w (w.alloc (.cells #[.int .i64 k, .string s, .int .i64 n, .slice ao l cap] 41)) := (Below.refl _ _).alloc (Nat.le_refl _) _
  unfold maxLen at hl
  by_cases h1 : k = 1
  · subst h1
    by_cases hz : s.size = 0
    · obtain rfl := empty_of hz
      clear hz
      by_cases h0 : l = 0
      · subst h0
        go_enter Tryz.func70, Tryz.ntmps70
        go_wp2
        go_ret
        exact ⟨ret_val (by simp [formV, show (⟨#[]⟩ : ByteArray).size = 0 from rfl]), hb0⟩
      · have e0 : ((l : Int) == 0) = false := beq_eq_false_iff_ne.2 (by omega)
        go_enter Tryz.func70, Tryz.ntmps70
        go_wp2
        go_ret
        exact ⟨ret_val (by simp [formV, h0]), hb0⟩
    · have hq := not_empty hz
      go_enter Tryz.func70, Tryz.ntmps70
      go_wp2
      go_ret
      exact ⟨ret_val (by simp [formV, hz]), hb0⟩
  by_cases h3 : k = 3
  · subst h3
    by_cases hz : s.size = 0
    · obtain rfl := empty_of hz
      clear hz
      by_cases h0 : l = 0
      · subst h0
        go_enter Tryz.func70, Tryz.ntmps70
        go_wp2
        go_ret
        exact ⟨ret_val (by simp [formV, show (⟨#[]⟩ : ByteArray).size = 0 from rfl]), hb0⟩
      · have e0 : ((l : Int) == 0) = false := beq_eq_false_iff_ne.2 (by omega)
        go_enter Tryz.func70, Tryz.ntmps70
        go_wp2
        go_ret
        exact ⟨ret_val (by simp [formV, h0]), hb0⟩
    · have hq := not_empty hz
      go_enter Tryz.func70, Tryz.ntmps70
      go_wp2
      go_ret
      exact ⟨ret_val (by simp [formV, hz]), hb0⟩
  by_cases h2 : k = 2
  · subst h2
    by_cases hz : n = 0
    · subst hz
      by_cases h0 : l = 0
      · subst h0
        go_enter Tryz.func70, Tryz.ntmps70
        go_wp2
        go_ret
        exact ⟨ret_val (by simp [formV]), hb0⟩
      · have e0 : ((l : Int) == 0) = false := beq_eq_false_iff_ne.2 (by omega)
        go_enter Tryz.func70, Tryz.ntmps70
        go_wp2
        go_ret
        exact ⟨ret_val (by simp [formV, h0]), hb0⟩
    · have e0 : (n == 0) = false := beq_eq_false_iff_ne.2 hz
      go_enter Tryz.func70, Tryz.ntmps70
      go_wp2
      go_ret
      exact ⟨ret_val (by simp [formV, hz]), hb0⟩
  by_cases h4 : k = 4
  · subst h4
    by_cases hz : n = 0
    · subst hz
      go_enter Tryz.func70, Tryz.ntmps70
      go_wp2
      go_ret
      exact ⟨ret_val (by simp [formV]), hb0⟩
    · have e0 : (n == 0) = false := beq_eq_false_iff_ne.2 hz
      go_enter Tryz.func70, Tryz.ntmps70
      go_wp2
      go_ret
      exact ⟨ret_val (by simp [formV, hz]), hb0⟩
  have e1 : (k == 1) = false := beq_eq_false_iff_ne.2 h1
  have e2 : (k == 2) = false := beq_eq_false_iff_ne.2 h2
  have e3 : (k == 3) = false := beq_eq_false_iff_ne.2 h3
  have e4 : (k == 4) = false := beq_eq_false_iff_ne.2 h4
  go_enter Tryz.func70, Tryz.ntmps70
  go_wp2
  go_ret
  exact ⟨ret_val (by simp [formV, h1, h2, h3, h4]), hb0⟩

theorem rightStruct (s : ByteArray) (hs : s.size ≤ maxLen) (ao : Option Addr) (l cap : Nat) (hl : l ≤ maxLen) (w : World) :
    Calls Tryz.prog 71 #[.agg #[.string s, .slice ao l cap]] w fun e w' => e = .returned (.bool (nameOk s && decide (1 ≤ l ∧ l ≤ 5))) ∧ Below w.heap.size w w' := by
  have hb0 : Below w.heap.size w (w.alloc (.cells #[.string s, .slice ao l cap] 101)) := (Below.refl _ _).alloc (Nat.le_refl _) _
  have HN : Hid (∀ w, Calls Tryz.prog 78 #[.string s] w fun e w' => e = .returned (.bool (nameOk s)) ∧ w' = w) := implName s hs
  unfold maxLen at hl
  clear hs
  cases hN : nameOk s with
  | true =>
    rw [hN] at HN
    by_cases h1 : 1 ≤ l
    · go_enter Tryz.func71, Tryz.ntmps71
      go_wp2_with (go_at_call 78; refine (Calls.mono (HN.out _) ?_); rintro e w1 ⟨rfl, rfl⟩)
      go_ret
      exact ⟨ret_bool (by rw [Bool.true_and]; congr 1; apply propext; omega), hb0⟩
    · go_enter Tryz.func71, Tryz.ntmps71
      go_wp2_with (go_at_call 78; refine (Calls.mono (HN.out _) ?_); rintro e w1 ⟨rfl, rfl⟩)
      go_ret
      exact ⟨ret_bool (by first | rfl | (rw [Bool.true_and]; symm; exact decide_eq_false (by omega))), hb0⟩
  | false =>
    rw [hN] at HN
    go_enter Tryz.func71, Tryz.ntmps71
    go_wp2_with (go_at_call 78; refine (Calls.mono (HN.out _) ?_); rintro e w1 ⟨rfl, rfl⟩)
    go_ret
    exact ⟨ret_bool (by rw [Bool.false_and]), hb0⟩

theorem rightAtom (s : ByteArray) (hs : s.size ≤ maxLen) (w : World) :
    Calls Tryz.prog 116 #[.agg #[.string s]] w fun e w' => e = .returned (.bool (nameOk s)) ∧ Below w.heap.size w w' := by
  have hb0 : Below w.heap.size w (w.alloc (.cells #[.string s] 109)) := (Below.refl _ _).alloc (Nat.le_refl _) _
  have HN : Hid (∀ w, Calls Tryz.prog 78 #[.string s] w fun e w' => e = .returned (.bool (nameOk s)) ∧ w' = w) := implName s hs
  clear hs
  go_enter Tryz.func116, Tryz.ntmps116
  go_wp2_with (go_at_call 78; refine (Calls.mono (HN.out _) ?_); rintro e w1 ⟨rfl, rfl⟩)
  go_ret
  exact ⟨rfl, hb0⟩

theorem rightNo (w : World) :
    Calls Tryz.prog 118 #[.agg #[]] w fun e w' => e = .returned (.bool false) ∧ Below w.heap.size w w' := by
  go_enter Tryz.func118, Tryz.ntmps118
  go_wp2
  go_ret
  exact ⟨rfl, (Below.refl _ _).alloc (Nat.le_refl _) _⟩

theorem rightVar (n : Int) (w : World) :
    Calls Tryz.prog 112 #[.agg #[.int .i64 n]] w fun e w' => e = .returned (.bool (decide (0 ≤ n ∧ n ≤ 99999))) ∧ Below w.heap.size w w' := by
  have hb0 : Below w.heap.size w (w.alloc (.cells #[.int .i64 n] 106)) := (Below.refl _ _).alloc (Nat.le_refl _) _
  by_cases h1 : 0 ≤ n
  · go_enter Tryz.func112, Tryz.ntmps112
    go_wp2
    go_ret
    exact ⟨ret_bool (by congr 1; apply propext; omega), hb0⟩
  · go_enter Tryz.func112, Tryz.ntmps112
    go_wp2
    go_ret
    exact ⟨ret_bool (by first | rfl | (simp; omega) | simp [h1]), hb0⟩

theorem rightInt (n : Int) (w : World) :
    Calls Tryz.prog 114 #[.agg #[.int .i64 n]] w fun e w' => e = .returned (.bool (decide (-999999999 ≤ n ∧ n ≤ 999999999))) ∧ Below w.heap.size w w' := by
  have hb0 : Below w.heap.size w (w.alloc (.cells #[.int .i64 n] 107)) := (Below.refl _ _).alloc (Nat.le_refl _) _
  by_cases h1 : -999999999 ≤ n
  · go_enter Tryz.func114, Tryz.ntmps114
    go_wp2
    go_ret
    exact ⟨ret_bool (by congr 1; apply propext; omega), hb0⟩
  · go_enter Tryz.func114, Tryz.ntmps114
    go_wp2
    go_ret
    exact ⟨ret_bool (by first | rfl | (simp; omega) | simp [h1]), hb0⟩

@[go_sem] theorem as_var_var (v : Value) (w : World) : (Instr.typeAssert (.iface 106 v) 98 106 true).run Tryz.prog w = .ok (.tuple #[v, .bool true]) w := by kernel_rfl
@[go_sem] theorem as_int_var (v : Value) (w : World) : (Instr.typeAssert (.iface 107 v) 98 106 true).run Tryz.prog w = .ok (.tuple #[.agg #[.int .i64 0], .bool false]) w := by kernel_rfl
@[go_sem] theorem as_atom_var (v : Value) (w : World) : (Instr.typeAssert (.iface 109 v) 98 106 true).run Tryz.prog w = .ok (.tuple #[.agg #[.int .i64 0], .bool false]) w := by kernel_rfl
@[go_sem] theorem as_struct_var (v : Value) (w : World) : (Instr.typeAssert (.iface 101 v) 98 106 true).run Tryz.prog w = .ok (.tuple #[.agg #[.int .i64 0], .bool false]) w := by kernel_rfl
@[go_sem] theorem as_no_var (v : Value) (w : World) : (Instr.typeAssert (.iface 111 v) 98 106 true).run Tryz.prog w = .ok (.tuple #[.agg #[.int .i64 0], .bool false]) w := by kernel_rfl
@[go_sem] theorem as_var_int (v : Value) (w : World) : (Instr.typeAssert (.iface 106 v) 98 107 true).run Tryz.prog w = .ok (.tuple #[.agg #[.int .i64 0], .bool false]) w := by kernel_rfl
@[go_sem] theorem as_int_int (v : Value) (w : World) : (Instr.typeAssert (.iface 107 v) 98 107 true).run Tryz.prog w = .ok (.tuple #[v, .bool true]) w := by kernel_rfl
@[go_sem] theorem as_atom_int (v : Value) (w : World) : (Instr.typeAssert (.iface 109 v) 98 107 true).run Tryz.prog w = .ok (.tuple #[.agg #[.int .i64 0], .bool false]) w := by kernel_rfl
@[go_sem] theorem as_struct_int (v : Value) (w : World) : (Instr.typeAssert (.iface 101 v) 98 107 true).run Tryz.prog w = .ok (.tuple #[.agg #[.int .i64 0], .bool false]) w := by kernel_rfl
@[go_sem] theorem as_no_int (v : Value) (w : World) : (Instr.typeAssert (.iface 111 v) 98 107 true).run Tryz.prog w = .ok (.tuple #[.agg #[.int .i64 0], .bool false]) w := by kernel_rfl
@[go_sem] theorem as_var_atom (v : Value) (w : World) : (Instr.typeAssert (.iface 106 v) 98 109 true).run Tryz.prog w = .ok (.tuple #[.agg #[.string ⟨#[]⟩], .bool false]) w := by kernel_rfl
@[go_sem] theorem as_int_atom (v : Value) (w : World) : (Instr.typeAssert (.iface 107 v) 98 109 true).run Tryz.prog w = .ok (.tuple #[.agg #[.string ⟨#[]⟩], .bool false]) w := by kernel_rfl
@[go_sem] theorem as_atom_atom (v : Value) (w : World) : (Instr.typeAssert (.iface 109 v) 98 109 true).run Tryz.prog w = .ok (.tuple #[v, .bool true]) w := by kernel_rfl
@[go_sem] theorem as_struct_atom (v : Value) (w : World) : (Instr.typeAssert (.iface 101 v) 98 109 true).run Tryz.prog w = .ok (.tuple #[.agg #[.string ⟨#[]⟩], .bool false]) w := by kernel_rfl
@[go_sem] theorem as_no_atom (v : Value) (w : World) : (Instr.typeAssert (.iface 111 v) 98 109 true).run Tryz.prog w = .ok (.tuple #[.agg #[.string ⟨#[]⟩], .bool false]) w := by kernel_rfl
@[go_sem] theorem as_var_struct (v : Value) (w : World) : (Instr.typeAssert (.iface 106 v) 98 101 true).run Tryz.prog w = .ok (.tuple #[.agg #[.string ⟨#[]⟩, .slice none 0 0], .bool false]) w := by kernel_rfl
@[go_sem] theorem as_int_struct (v : Value) (w : World) : (Instr.typeAssert (.iface 107 v) 98 101 true).run Tryz.prog w = .ok (.tuple #[.agg #[.string ⟨#[]⟩, .slice none 0 0], .bool false]) w := by kernel_rfl
@[go_sem] theorem as_atom_struct (v : Value) (w : World) : (Instr.typeAssert (.iface 109 v) 98 101 true).run Tryz.prog w = .ok (.tuple #[.agg #[.string ⟨#[]⟩, .slice none 0 0], .bool false]) w := by kernel_rfl
@[go_sem] theorem as_struct_struct (v : Value) (w : World) : (Instr.typeAssert (.iface 101 v) 98 101 true).run Tryz.prog w = .ok (.tuple #[v, .bool true]) w := by kernel_rfl
@[go_sem] theorem as_no_struct (v : Value) (w : World) : (Instr.typeAssert (.iface 111 v) 98 101 true).run Tryz.prog w = .ok (.tuple #[.agg #[.string ⟨#[]⟩, .slice none 0 0], .bool false]) w := by kernel_rfl
@[go_sem] theorem me_var_right (f : Nat) (n : Int) (w : World) : (method (f + 1) 106 (.agg #[.int .i64 n]) "loop.example/g00469/impl.right").run Tryz.prog w = .ok (112, .agg #[.int .i64 n]) w := by kernel_rfl
@[go_sem] theorem me_var_rank (f : Nat) (n : Int) (w : World) : (method (f + 1) 106 (.agg #[.int .i64 n]) "loop.example/g00469/impl.rank").run Tryz.prog w = .ok (111, .agg #[.int .i64 n]) w := by kernel_rfl
@[go_sem] theorem me_int_right (f : Nat) (n : Int) (w : World) : (method (f + 1) 107 (.agg #[.int .i64 n]) "loop.example/g00469/impl.right").run Tryz.prog w = .ok (114, .agg #[.int .i64 n]) w := by kernel_rfl
@[go_sem] theorem me_int_rank (f : Nat) (n : Int) (w : World) : (method (f + 1) 107 (.agg #[.int .i64 n]) "loop.example/g00469/impl.rank").run Tryz.prog w = .ok (113, .agg #[.int .i64 n]) w := by kernel_rfl
@[go_sem] theorem me_atom_right (f : Nat) (s : ByteArray) (w : World) : (method (f + 1) 109 (.agg #[.string s]) "loop.example/g00469/impl.right").run Tryz.prog w = .ok (116, .agg #[.string s]) w := by kernel_rfl
@[go_sem] theorem me_atom_rank (f : Nat) (s : ByteArray) (w : World) : (method (f + 1) 109 (.agg #[.string s]) "loop.example/g00469/impl.rank").run Tryz.prog w = .ok (115, .agg #[.string s]) w := by kernel_rfl
@[go_sem] theorem me_struct_right (f : Nat) (s : ByteArray) (ao : Option Addr) (l cap : Nat) (w : World) : (method (f + 1) 101 (.agg #[.string s, .slice ao l cap]) "loop.example/g00469/impl.right").run Tryz.prog w = .ok (71, .agg #[.string s, .slice ao l cap]) w := by kernel_rfl
@[go_sem] theorem me_struct_rank (f : Nat) (s : ByteArray) (ao : Option Addr) (l cap : Nat) (w : World) : (method (f + 1) 101 (.agg #[.string s, .slice ao l cap]) "loop.example/g00469/impl.rank").run Tryz.prog w = .ok (110, .agg #[.string s, .slice ao l cap]) w := by kernel_rfl
@[go_sem] theorem me_no_right (f : Nat)  (w : World) : (method (f + 1) 111 (.agg #[]) "loop.example/g00469/impl.right").run Tryz.prog w = .ok (118, .agg #[]) w := by kernel_rfl
@[go_sem] theorem me_no_rank (f : Nat)  (w : World) : (method (f + 1) 111 (.agg #[]) "loop.example/g00469/impl.rank").run Tryz.prog w = .ok (117, .agg #[]) w := by kernel_rfl
end Go.Proofs.YtmhmlkdoaojimapGreatDoor

/- Is a term right: the code's walk, which counts down how many terms are left. -/
namespace Go.Proofs.YtmhmlkdoaojimapGreatDoor
open Go.RowKit

/-- the block g holds the number l -/
structure LeftAt (w : World) (g l : Nat) : Prop where
  lt : g < w.heap.size
  c : w.cell? ⟨g, 0, none⟩ = some (.int .i64 (l : Int))
  fz : w.frozen? ⟨g, 0, none⟩ = false

/-- nothing that was there has turned, but block g -/
structure Bar (g : Nat) (w w' : World) : Prop where
  os : w'.os = w.os
  tape : w'.tape = w.tape
  output : w'.output = w.output
  size : w.heap.size ≤ w'.heap.size
  block : ∀ k, k < w.heap.size → k ≠ g → w'.heap[k]? = w.heap[k]?
theorem Bar.refl (g : Nat) (w : World) : Bar g w w := ⟨rfl, rfl, rfl, Nat.le_refl _, fun _ _ _ => rfl⟩
theorem Bar.of_below {g : Nat} {w w' : World} (h : Below w.heap.size w w') : Bar g w w' := ⟨h.os, h.tape, h.output, h.size, fun k hk _ => h.block k hk⟩
theorem Bar.set (g k : Nat) (w : World) (v : Value) : Bar g w (w.setCell ⟨g, k, none⟩ v) :=
  ⟨rfl, rfl, rfl, by simp [World.setCell], fun j _ hne => by
    have : g ≠ j := fun h => hne h.symm
    simp [World.setCell, Array.getElem?_modify, this]⟩
theorem Bar.trans {g : Nat} {w w' w'' : World} (h : Bar g w w') (h' : Bar g w' w'') : Bar g w w'' :=
  ⟨h'.os.trans h.os, h'.tape.trans h.tape, h'.output.trans h.output, Nat.le_trans h.size h'.size, fun k hk hne => (h'.block k (Nat.lt_of_lt_of_le hk h.size) hne).trans (h.block k hk hne)⟩
theorem Bar.below {g B : Nat} {w w' : World} (h : Bar g w w') (hB : B ≤ g) (hw : B ≤ w.heap.size) : Below B w w' :=
  ⟨h.os, h.tape, h.output, h.size, fun k hk => h.block k (by omega) (by omega)⟩
theorem LeftAt.keep {w w' : World} {g l : Nat} (h : LeftAt w g l) (hb : Below w.heap.size w w') : LeftAt w' g l :=
  ⟨Nat.lt_of_lt_of_le h.lt hb.size, by rw [World.cell?_of_block (hb.block g h.lt)]; exact h.c, by rw [World.frozen?_of_block (hb.block g h.lt)]; exact h.fz⟩
theorem LeftAt.set {w : World} {g l : Nat} (h : LeftAt w g l) (l' : Nat) : LeftAt (w.setCell ⟨g, 0, none⟩ (.int .i64 (l' : Int))) g l' :=
  ⟨by simpa [World.setCell] using h.lt, World.cell?_setCell_same _ _ _ h.c, by rw [World.frozen?_setCell]; exact h.fz⟩

def RwPost (w : World) (g left : Nat) (r : Bool) (many : Nat) (e : Ending) (w' : World) : Prop :=
  ∃ left', e = .returned (.bool r) ∧ Bar g w w' ∧ LeftAt w' g left' ∧ left' ≤ left ∧ (r = true → left' + many = left)

def RwOk (t : Tm) : Prop := ∀ (w0 w : World) (v : Value) (deep left g : Nat), TmIn w0 t v → Below w0.heap.size w0 w → w0.heap.size ≤ g → LeftAt w g left → deep ≤ 40 → left ≤ 400 →
  Calls Tryz.prog 62 #[v, .int .i64 (deep : Int), .pointer (some ⟨g, 0, none⟩)] w (RwPost w g left (t.right (41 - deep) && decide (t.n ≤ left)) t.n)

def AllRw (ks : List Tm) : Prop := ∀ (w0 w : World) (ao : Option Addr) (cap : Nat) (deep left g : Nat), (ks ≠ [] → ∃ b off, ao = some ⟨b, off, none⟩ ∧ TmsIn w0 ks b off) → ks.length ≤ cap → cap ≤ maxLen → Below w0.heap.size w0 w → w0.heap.size ≤ g → LeftAt w g left → deep ≤ 40 → left ≤ 400 →
  Calls Tryz.prog 72 #[.slice ao ks.length cap, .int .i64 (deep : Int), .pointer (some ⟨g, 0, none⟩)] w (RwPost w g left (rights ks (41 - deep) && decide (ns ks ≤ left)) (ns ks))

set_option maxHeartbeats 4000000 in
theorem all_right (ks : List Tm) (hks : ∀ t ∈ ks, RwOk t) : AllRw ks := by
  intro w0 w ao cap deep left g hrow hlen hcap hb0 hg hl hd hle
  unfold maxLen at hcap
  have HKS : Hid _ := hks
  have HR : Hid _ := hrow
  have HL : Hid _ := hl
  have HB0 : Hid _ := hb0
  clear hks hrow hl hb0
  go_enter Tryz.func72, Tryz.ntmps72
  go_wp2
  go_loopw [11] (fun vi wr => Hid (Bar g w wr) ∧ ∃ j l : Nat, j ≤ ks.length ∧ vi = .int .i64 (j : Int) ∧ Hid (LeftAt wr g l) ∧ Hid (rights (ks.take j) (41 - deep) = true) ∧ Hid (l + ns (ks.take j) = left)) (fun i _ => ks.length - (intOf i).toNat)
  case atStart => exact ⟨Bar.refl _ _, 0, left, by omega, rfl, HL.out, by show _ = _; simp [rights_all], by show _ = _; simp [ns, Tm.n.ns]⟩
  case round =>
    obtain ⟨HB, j, l, hj, rfl, HLA, HRT, HN⟩ := hrel
    by_cases hlt : j < ks.length
    · obtain ⟨b, off, rfl, hin⟩ := HR.out (by intro e; subst e; simp at hlt)
      have hbw : Below w0.heap.size w0 wr := HB0.out.trans (HB.out.below hg HB0.out.size)
      obtain ⟨c0, c1, c2, c3, h0, h1, h2, h3, ht⟩ := hin.at j hlt
      obtain ⟨k1, s1, n1, ao1, len1, cap1, he⟩ := tm_shape ht
      obtain ⟨rfl, rfl, rfl, rfl⟩ : c0 = .int .i64 k1 ∧ c1 = .string s1 ∧ c2 = .int .i64 n1 ∧ c3 = .slice ao1 len1 cap1 := by simpa using he
      clear he
      have hbl : b < w0.heap.size := cell_blk h0
      replace h0 := cell_keep h0 hbw
      replace h1 := cell_keep h1 hbw
      replace h2 := cell_keep h2 hbw
      replace h3 := cell_keep h3 hbw
      have HC : Hid (∀ w2, Below wr.heap.size wr w2 → Calls Tryz.prog 62 #[.agg #[.int .i64 k1, .string s1, .int .i64 n1, .slice ao1 len1 cap1], .int .i64 (deep : Int), .pointer (some ⟨g, 0, none⟩)] w2 (RwPost w2 g l (ks[j].right (41 - deep) && decide (ks[j].n ≤ l)) ks[j].n)) := fun w2 hb2 =>
        HKS.out ks[j] (List.getElem_mem hlt) w0 w2 _ deep l g ht (hbw.trans (hb2.mono hbw.size)) hg (HLA.out.keep hb2) hd (by have := HN.out; omega)
      clear hin ht hbw HR HKS
      have HW : Hid (ns (ks.take (j + 1)) = ns (ks.take j) + ks[j].n) := by
        show _ = _
        rw [List.take_succ_eq_append_getElem hlt, ns_append]; simp [ns, Tm.n.ns]
      cases hR : (ks[j].right (41 - deep) && decide (ks[j].n ≤ l)) with
      | true =>
        rw [hR] at HC
        rw [Bool.and_eq_true, decide_eq_true_iff] at hR
        have HRT' : Hid (rights (ks.take (j + 1)) (41 - deep) = true) := rights_take hlt HRT.out hR.1
        clear HRT hR HL
        go_wp2_with (go_at_call 62; refine (Calls.mono (HC.out _ ((Below.refl _ _).alloc (Nat.le_refl _) _)) ?_); rintro e w1 ⟨l1, rfl, hb, hl1, hle1, hlq⟩; have HB1 : Hid (Bar g w w1) := HB.out.trans ((Bar.of_below ((Below.refl _ _).alloc (Nat.le_refl _) _)).trans hb); have HL1 : Hid (LeftAt w1 g l1) := hl1; have HQ : Hid (l1 + ks[j].n = l) := hlq rfl; clear hb hl1 hlq)
        go_roundw
        case rel => exact ⟨HB1.out, j + 1, l1, by omega, by go_num, HL1.out, HRT'.out, by show _ = _; have := HN.out; have := HW.out; have := HQ.out; omega⟩
        case measure => simp [intOf]; omega
      | false =>
        rw [hR] at HC
        have HF : Hid ((rights ks (41 - deep) && decide (ns ks ≤ left)) = false) := by
          show _ = _
          rw [Bool.and_eq_false_iff] at *
          rcases hR with hR | hR
          · exact Or.inl (rights_no hlt hR)
          · right
            rw [decide_eq_false_iff_not] at *
            have h1 := HN.out
            have h2 := HW.out
            have h3 := ns_take_le ks (j + 1)
            omega
        have hll : l ≤ left := by have := HN.out; omega
        clear HRT hR HL HN HW
        go_wp2_with (go_at_call 62; refine (Calls.mono (HC.out _ ((Below.refl _ _).alloc (Nat.le_refl _) _)) ?_); rintro e w1 ⟨l1, rfl, hb, hl1, hle1, hlq⟩; have HB1 : Hid (Bar g w w1) := HB.out.trans ((Bar.of_below ((Below.refl _ _).alloc (Nat.le_refl _) _)).trans hb); have HL1 : Hid (LeftAt w1 g l1) := hl1; clear hb hl1 hlq)
        go_ret
        exact ⟨l1, by rw [HF.out]; rfl, HB1.out, HL1.out, by omega, by rw [HF.out]; simp⟩
    · have HF : Hid ((rights ks (41 - deep) && decide (ns ks ≤ left)) = true) := by
        show _ = _
        have h1 := HRT.out
        have h2 := HN.out
        rw [List.take_of_length_le (by omega)] at h1 h2
        rw [h1, decide_eq_true (by omega)]; rfl
      have HN' : Hid (l + ns ks = left) := by
        show _ = _
        have h2 := HN.out
        rw [List.take_of_length_le (by omega)] at h2
        exact h2
      clear HRT HL HN HR HKS
      go_wp2
      go_ret
      exact ⟨l, by rw [HF.out]; rfl, HB.out, HLA.out, by have := HN'.out; omega, fun _ => HN'.out⟩

theorem form_cases (k : Int) (s : ByteArray) (n : Int) (ao : Option Addr) (l cap : Nat) :
    (formV k s n ao l cap = .iface 106 (.agg #[.int .i64 n]) ∧ oneT k s n l = decide (0 ≤ n ∧ n ≤ 99999) ∧ l = 0) ∨
    (formV k s n ao l cap = .iface 107 (.agg #[.int .i64 n]) ∧ oneT k s n l = decide (-999999999 ≤ n ∧ n ≤ 999999999) ∧ l = 0) ∨
    (formV k s n ao l cap = .iface 109 (.agg #[.string s]) ∧ oneT k s n l = nameOk s ∧ l = 0) ∨
    (formV k s n ao l cap = .iface 101 (.agg #[.string s, .slice ao l cap]) ∧ oneT k s n l = (nameOk s && decide (1 ≤ l ∧ l ≤ 5))) ∨
    (formV k s n ao l cap = .iface 111 (.agg #[]) ∧ oneT k s n l = false) := by
  by_cases h1 : k = 1
  · subst h1
    by_cases h : s.size = 0 ∧ l = 0
    · left; simp [formV, oneT, h]
    · right; right; right; right
      refine ⟨by simp only [formV]; rw [if_neg (by omega), if_neg (by omega), if_neg (by omega), if_neg (by omega)], ?_⟩
      simp only [oneT]
      by_cases h5 : s.size = 0
      · have h6 : l ≠ 0 := fun h6 => h ⟨h5, h6⟩
        simp [h6]
      · simp [h5]
  by_cases h3 : k = 3
  · subst h3
    by_cases h : s.size = 0 ∧ l = 0
    · right; left; simp [formV, oneT, h]
    · right; right; right; right
      refine ⟨by simp only [formV]; rw [if_neg (by omega), if_neg (by omega), if_neg (by omega), if_neg (by omega)], ?_⟩
      simp only [oneT]
      by_cases h5 : s.size = 0
      · have h6 : l ≠ 0 := fun h6 => h ⟨h5, h6⟩
        simp [h6]
      · simp [h5]
  by_cases h2 : k = 2
  · subst h2
    by_cases h : n = 0 ∧ l = 0
    · right; right; left; simp [formV, oneT, h]
    · right; right; right; right; simp [formV, oneT, h]
      intro _ h3; exact fun h4 => h ⟨h3, h4⟩
  by_cases h4 : k = 4
  · subst h4
    by_cases h : n = 0
    · right; right; right; left; simp [formV, oneT, h]
    · right; right; right; right; simp [formV, oneT, h]
  right; right; right; right; simp [formV, oneT, h1, h2, h3, h4]

set_option maxHeartbeats 4000000 in
set_option maxRecDepth 20000 in
theorem right_within (t : Tm) : RwOk t := by
  refine tm_ind (p := RwOk) ?_ t
  clear t
  intro k s n ks hks w0 w v deep left g hin hb0 hg hl hd hle
  unfold TmIn at hin
  obtain ⟨ao, cap, rfl, hk, hn, hs, hlen, hcap, hrow⟩ := hin
  obtain ⟨W, hW⟩ : ∃ W, W = w.alloc (.cells #[.int .i64 k, .string s, .int .i64 n, .slice ao ks.length cap] 41) := ⟨_, rfl⟩
  have hbW : Below w.heap.size w W := by rw [hW]; exact (Below.refl _ _).alloc (Nat.le_refl _) _
  have hlW : LeftAt W g left := hl.keep hbW
  obtain ⟨glt, gc, gf⟩ := hlW
  rw [hW] at glt gc gf
  by_cases h0 : deep = 0
  · subst h0
    have HF : Hid (((Tm.mk k s n ks).right (41 - 0) && decide ((Tm.mk k s n ks).n ≤ left)) = false) := by
      show _ = _
      rw [right_mk]; simp
    have HL : Hid _ := hl.keep hbW
    have HB : Hid _ := hbW
    clear hks hrow hl hbW
    go_enter Tryz.func62, Tryz.ntmps62
    go_wp2
    go_ret
    exact ⟨left, by rw [HF.out]; rfl, by rw [← hW]; exact Bar.of_below HB.out, by rw [← hW]; exact HL.out, by omega, by rw [HF.out]; simp⟩
  have e0 : ((deep : Int) == 0) = false := beq_eq_false_iff_ne.2 (by omega)
  by_cases h1 : left = 0
  · subst h1
    have HF : Hid (((Tm.mk k s n ks).right (41 - deep) && decide ((Tm.mk k s n ks).n ≤ 0)) = false) := by
      show _ = _
      rw [n_mk]; simp
    have HL : Hid _ := hl.keep hbW
    have HB : Hid _ := hbW
    clear hks hrow hl hbW
    go_enter Tryz.func62, Tryz.ntmps62
    go_wp2
    go_ret
    exact ⟨0, by rw [HF.out]; rfl, by rw [← hW]; exact Bar.of_below HB.out, by rw [← hW]; exact HL.out, by omega, by rw [HF.out]; simp⟩
  have e1 : ((left : Int) == 0) = false := beq_eq_false_iff_ne.2 (by omega)
  have HFM := implForm k s n ao ks.length cap (by omega)
  obtain ⟨W1, hW1⟩ : ∃ W1, W1 = (w.alloc (.cells #[.int .i64 k, .string s, .int .i64 n, .slice ao ks.length cap] 41)).setCell ⟨g, 0, none⟩ (.int .i64 ((left : Int) - 1)) := ⟨_, rfl⟩
  have hblk : (w.alloc (.cells #[.int .i64 k, .string s, .int .i64 n, .slice ao ks.length cap] 41)).heap[w.heap.size]? = some (.cells #[.int .i64 k, .string s, .int .i64 n, .slice ao ks.length cap] 41 (0, 0)) := alloc_at _ _ rfl
  have hne : ∀ i, (⟨g, 0, none⟩ : Addr) ≠ ⟨w.heap.size, i, none⟩ := fun i e => by have := hl.lt; cases e; omega
  have d0 : ((w.alloc (.cells #[.int .i64 k, .string s, .int .i64 n, .slice ao ks.length cap] 41)).setCell ⟨g, 0, none⟩ (.int .i64 ((left : Int) - 1))).cell? ⟨w.heap.size, 0, none⟩ = some (.int .i64 k) := by
    rw [World.cell?_setCell_other _ _ _ _ (hne 0)]; exact blk_cell (i := 0) hblk (by simp)
  have d1 : ((w.alloc (.cells #[.int .i64 k, .string s, .int .i64 n, .slice ao ks.length cap] 41)).setCell ⟨g, 0, none⟩ (.int .i64 ((left : Int) - 1))).cell? ⟨w.heap.size, 1, none⟩ = some (.string s) := by
    rw [World.cell?_setCell_other _ _ _ _ (hne 1)]; exact blk_cell (i := 1) hblk (by simp)
  have d2 : ((w.alloc (.cells #[.int .i64 k, .string s, .int .i64 n, .slice ao ks.length cap] 41)).setCell ⟨g, 0, none⟩ (.int .i64 ((left : Int) - 1))).cell? ⟨w.heap.size, 2, none⟩ = some (.int .i64 n) := by
    rw [World.cell?_setCell_other _ _ _ _ (hne 2)]; exact blk_cell (i := 2) hblk (by simp)
  have d3 : ((w.alloc (.cells #[.int .i64 k, .string s, .int .i64 n, .slice ao ks.length cap] 41)).setCell ⟨g, 0, none⟩ (.int .i64 ((left : Int) - 1))).cell? ⟨w.heap.size, 3, none⟩ = some (.slice ao ks.length cap) := by
    rw [World.cell?_setCell_other _ _ _ _ (hne 3)]; exact blk_cell (i := 3) hblk (by simp)
  have HB1 : Hid (Bar g w W1) := by rw [hW1, ← hW]; exact (Bar.of_below hbW).trans (Bar.set _ _ _ _)
  have HL1 : Hid (LeftAt W1 g (left - 1)) := by
    have := (hl.keep hbW).set (left - 1)
    rw [show ((left - 1 : Nat) : Int) = (left : Int) - 1 by omega] at this
    rw [hW1, ← hW]; exact this
  clear hblk hne
  rcases form_cases k s n ao ks.length cap with ⟨hf, ho, hz⟩ | ⟨hf, ho, hz⟩ | ⟨hf, ho, hz⟩ | ⟨hf, ho⟩ | ⟨hf, ho⟩
  · rw [hf] at HFM
    replace HFM : Hid _ := HFM
    have hke : ks = [] := List.eq_nil_of_length_eq_zero hz
    have HV : Hid (((Tm.mk k s n ks).right (41 - deep) && decide ((Tm.mk k s n ks).n ≤ left)) = decide (0 ≤ n ∧ n ≤ 99999)) := by
      show _ = _
      rw [right_mk, n_mk, ho, hke, decide_eq_true (by omega), decide_eq_true (show 1 + ns [] ≤ left from (show 1 + 0 ≤ left by omega))]
      simp [rights, Tm.right.rights]
    have HN1 : Hid ((Tm.mk k s n ks).n = 1) := by
      show _ = _
      rw [n_mk, hke]; rfl
    clear hks hrow hl hbW hb0 hf hz ho hke
    go_enter Tryz.func62, Tryz.ntmps62
    go_wp2_with (go_at_call 70; refine (Calls.mono (HFM.out _) ?_); rintro e w1 ⟨rfl, hb⟩; rw [← hW1] at hb; have HL2 : Hid (LeftAt w1 g (left - 1)) := HL1.out.keep hb; have HB2 : Hid (Bar g w w1) := HB1.out.trans (Bar.of_below hb); clear hb)
    go_at_call 112
    refine (Calls.mono (rightVar n w1) ?_)
    rintro e w2 ⟨rfl, hb⟩
    have HL3 : Hid (LeftAt w2 g (left - 1)) := HL2.out.keep hb
    have HB3 : Hid (Bar g w w2) := HB2.out.trans (Bar.of_below hb)
    clear hb
    go_wp2
    go_ret
    exact ⟨left - 1, by rw [HV.out, Bool.decide_and]; rfl, HB3.out, HL3.out, by omega, fun _ => by have := HN1.out; omega⟩
  · rw [hf] at HFM
    replace HFM : Hid _ := HFM
    have hke : ks = [] := List.eq_nil_of_length_eq_zero hz
    have HV : Hid (((Tm.mk k s n ks).right (41 - deep) && decide ((Tm.mk k s n ks).n ≤ left)) = decide (-999999999 ≤ n ∧ n ≤ 999999999)) := by
      show _ = _
      rw [right_mk, n_mk, ho, hke, decide_eq_true (by omega), decide_eq_true (show 1 + ns [] ≤ left from (show 1 + 0 ≤ left by omega))]
      simp [rights, Tm.right.rights]
    have HN1 : Hid ((Tm.mk k s n ks).n = 1) := by
      show _ = _
      rw [n_mk, hke]; rfl
    clear hks hrow hl hbW hb0 hf hz ho hke
    go_enter Tryz.func62, Tryz.ntmps62
    go_wp2_with (go_at_call 70; refine (Calls.mono (HFM.out _) ?_); rintro e w1 ⟨rfl, hb⟩; rw [← hW1] at hb; have HL2 : Hid (LeftAt w1 g (left - 1)) := HL1.out.keep hb; have HB2 : Hid (Bar g w w1) := HB1.out.trans (Bar.of_below hb); clear hb)
    go_at_call 114
    refine (Calls.mono (rightInt n w1) ?_)
    rintro e w2 ⟨rfl, hb⟩
    have HL3 : Hid (LeftAt w2 g (left - 1)) := HL2.out.keep hb
    have HB3 : Hid (Bar g w w2) := HB2.out.trans (Bar.of_below hb)
    clear hb
    go_wp2
    go_ret
    exact ⟨left - 1, by rw [HV.out, Bool.decide_and]; rfl, HB3.out, HL3.out, by omega, fun _ => by have := HN1.out; omega⟩
  · rw [hf] at HFM
    replace HFM : Hid _ := HFM
    have hke : ks = [] := List.eq_nil_of_length_eq_zero hz
    have HV : Hid (((Tm.mk k s n ks).right (41 - deep) && decide ((Tm.mk k s n ks).n ≤ left)) = nameOk s) := by
      show _ = _
      rw [right_mk, n_mk, ho, hke, decide_eq_true (by omega), decide_eq_true (show 1 + ns [] ≤ left from (show 1 + 0 ≤ left by omega))]
      simp [rights, Tm.right.rights]
    have HN1 : Hid ((Tm.mk k s n ks).n = 1) := by
      show _ = _
      rw [n_mk, hke]; rfl
    clear hks hrow hl hbW hb0 hf hz ho hke
    go_enter Tryz.func62, Tryz.ntmps62
    go_wp2_with (go_at_call 70; refine (Calls.mono (HFM.out _) ?_); rintro e w1 ⟨rfl, hb⟩; rw [← hW1] at hb; have HL2 : Hid (LeftAt w1 g (left - 1)) := HL1.out.keep hb; have HB2 : Hid (Bar g w w1) := HB1.out.trans (Bar.of_below hb); clear hb)
    go_at_call 116
    refine (Calls.mono (rightAtom s hs w1) ?_)
    rintro e w2 ⟨rfl, hb⟩
    have HL3 : Hid (LeftAt w2 g (left - 1)) := HL2.out.keep hb
    have HB3 : Hid (Bar g w w2) := HB2.out.trans (Bar.of_below hb)
    clear hb
    go_wp2
    go_ret
    exact ⟨left - 1, by rw [HV.out]; rfl, HB3.out, HL3.out, by omega, fun _ => by have := HN1.out; omega⟩
  · rw [hf] at HFM
    replace HFM : Hid _ := HFM
    have HS := rightStruct s hs ao ks.length cap (by omega)
    cases hR : (nameOk s && decide (1 ≤ ks.length ∧ ks.length ≤ 5)) with
    | false =>
      rw [hR] at HS ho
      replace HS : Hid _ := HS
      have HV : Hid (((Tm.mk k s n ks).right (41 - deep) && decide ((Tm.mk k s n ks).n ≤ left)) = false) := by
        show _ = _
        rw [right_mk, ho]; simp
      clear hks hrow hl hbW hb0 hf ho
      go_enter Tryz.func62, Tryz.ntmps62
      go_wp2_with (first | (go_at_call 70; refine (Calls.mono (HFM.out _) ?_); rintro e w1 ⟨rfl, hb⟩; rw [← hW1] at hb; have HL2 : Hid (LeftAt w1 g (left - 1)) := HL1.out.keep hb; have HB2 : Hid (Bar g w w1) := HB1.out.trans (Bar.of_below hb); clear hb) | fail)
      have hb2 : Below w1.heap.size w1 (w1.alloc (.cells #[.string s, .slice ao ks.length cap] 101)) := (Below.refl _ _).alloc (Nat.le_refl _) _
      go_at_call 71
      refine (Calls.mono (HS.out _) ?_)
      rintro e w2 ⟨rfl, hb⟩
      replace hb2 := hb2.trans (hb.mono hb2.size)
      have HL3 : Hid (LeftAt w2 g (left - 1)) := HL2.out.keep hb2
      have HB3 : Hid (Bar g w w2) := HB2.out.trans (Bar.of_below hb2)
      clear hb hb2
      go_wp2
      go_ret
      exact ⟨left - 1, by rw [HV.out]; rfl, HB3.out, HL3.out, by omega, by rw [HV.out]; simp⟩
    | true =>
      rw [hR] at HS ho
      replace HS : Hid _ := HS
      have HV : Hid (((Tm.mk k s n ks).right (41 - deep) && decide ((Tm.mk k s n ks).n ≤ left)) = (rights ks (41 - (deep - 1)) && decide (ns ks ≤ left - 1))) := by
        show _ = _
        rw [right_mk, n_mk, ho, decide_eq_true (show 41 - deep ≤ 40 by omega), Bool.true_and, Bool.true_and, show 41 - (deep - 1) = 41 - deep + 1 by omega]
        congr 1
        exact decide_eq_decide.2 (by omega)
      have HN1 : Hid ((Tm.mk k s n ks).n = 1 + ns ks) := n_mk _ _ _ _
      have HAL : Hid (∀ w2, Bar g w w2 → LeftAt w2 g (left - 1) → Calls Tryz.prog 72 #[.slice ao ks.length cap, .int .i64 ((deep : Int) - 1), .pointer (some ⟨g, 0, none⟩)] w2 (RwPost w2 g (left - 1) (rights ks (41 - (deep - 1)) && decide (ns ks ≤ left - 1)) (ns ks))) := fun w2 hb hl2 => by
        have := all_right ks hks w0 w2 ao cap (deep - 1) (left - 1) g hrow hlen hcap (hb0.trans (hb.below hg hb0.size)) hg hl2 (by omega) (by omega)
        rwa [show ((deep - 1 : Nat) : Int) = (deep : Int) - 1 by omega] at this
      obtain ⟨R, hRR⟩ : ∃ R, R = (rights ks (41 - (deep - 1)) && decide (ns ks ≤ left - 1)) := ⟨_, rfl⟩
      rw [← hRR] at HV HAL
      clear hks hrow hl hbW hb0 hf ho hRR
      go_enter Tryz.func62, Tryz.ntmps62
      go_wp2_with (first | (go_at_call 70; refine (Calls.mono (HFM.out _) ?_); rintro e w1 ⟨rfl, hb⟩; rw [← hW1] at hb; have HL2 : Hid (LeftAt w1 g (left - 1)) := HL1.out.keep hb; have HB2 : Hid (Bar g w w1) := HB1.out.trans (Bar.of_below hb); clear hb) | fail)
      have hb2 : Below w1.heap.size w1 (w1.alloc (.cells #[.string s, .slice ao ks.length cap] 101)) := (Below.refl _ _).alloc (Nat.le_refl _) _
      have hblk : (w1.alloc (.cells #[.string s, .slice ao ks.length cap] 101)).heap[w1.heap.size]? = some (.cells #[.string s, .slice ao ks.length cap] 101 (0, 0)) := alloc_at _ _ rfl
      go_at_call 71
      refine (Calls.mono (HS.out _) ?_)
      rintro e w2 ⟨rfl, hb⟩
      have cs : w2.cell? ⟨w1.heap.size, 1, none⟩ = some (.slice ao ks.length cap) := blk_cell (i := 1) ((hb.block _ (by simp)).trans hblk) (by simp)
      replace hb2 := hb2.trans (hb.mono hb2.size)
      have HL3 : Hid (LeftAt w2 g (left - 1)) := HL2.out.keep hb2
      have HB3 : Hid (Bar g w w2) := HB2.out.trans (Bar.of_below hb2)
      clear hb hb2 hblk
      go_wp2_with (go_at_call 72; refine (Calls.mono (HAL.out _ HB3.out HL3.out) ?_); rintro e w3 ⟨l3, rfl, hb, hl3, hle3, hq⟩; have HB4 : Hid (Bar g w w3) := HB3.out.trans hb; have HL4 : Hid _ := hl3; have HQ : Hid _ := hq; clear hb hl3 hq)
      go_ret
      exact ⟨l3, by rw [HV.out]; rfl, HB4.out, HL4.out, by omega, fun h => by rw [HV.out] at h; have := HQ.out h; have := HN1.out; omega⟩
  · rw [hf] at HFM
    replace HFM : Hid _ := HFM
    have HV : Hid (((Tm.mk k s n ks).right (41 - deep) && decide ((Tm.mk k s n ks).n ≤ left)) = false) := by
      show _ = _
      rw [right_mk, ho]; simp
    clear hks hrow hl hbW hb0 hf ho
    go_enter Tryz.func62, Tryz.ntmps62
    go_wp2_with (go_at_call 70; refine (Calls.mono (HFM.out _) ?_); rintro e w1 ⟨rfl, hb⟩; rw [← hW1] at hb; have HL2 : Hid (LeftAt w1 g (left - 1)) := HL1.out.keep hb; have HB2 : Hid (Bar g w w1) := HB1.out.trans (Bar.of_below hb); clear hb)
    go_at_call 118
    refine (Calls.mono (rightNo w1) ?_)
    rintro e w2 ⟨rfl, hb⟩
    have HL3 : Hid (LeftAt w2 g (left - 1)) := HL2.out.keep hb
    have HB3 : Hid (Bar g w w2) := HB2.out.trans (Bar.of_below hb)
    clear hb
    go_wp2
    go_ret
    exact ⟨left - 1, by rw [HV.out]; rfl, HB3.out, HL3.out, by omega, by rw [HV.out]; simp⟩

set_option maxRecDepth 20000 in
theorem implOk (t : Tm) (w : World) (v : Value) (h : TmIn w t v) :
    Calls Tryz.prog 55 #[v] w fun e w' => e = .returned (.bool t.ok) ∧ Below w.heap.size w w' := by
  obtain ⟨k, s, n, ao, len, cap, rfl⟩ := tm_shape h
  obtain ⟨W, hW⟩ : ∃ W, W = w.alloc (.cells #[.int .i64 k, .string s, .int .i64 n, .slice ao len cap] 41) := ⟨_, rfl⟩
  have hbW : Below w.heap.size w W := by rw [hW]; exact (Below.refl _ _).alloc (Nat.le_refl _) _
  have hblk : W.heap[w.heap.size]? = some (.cells #[.int .i64 k, .string s, .int .i64 n, .slice ao len cap] 41 (0, 0)) := by rw [hW]; exact alloc_at _ _ rfl
  obtain ⟨W1, hW1⟩ : ∃ W1, W1 = W.alloc (.cells #[.int .i64 400] 3) := ⟨_, rfl⟩
  have hbW1 : Below W.heap.size W W1 := by rw [hW1]; exact (Below.refl _ _).alloc (Nat.le_refl _) _
  have hblk1 : W1.heap[W.heap.size]? = some (.cells #[.int .i64 400] 3 (0, 0)) := by rw [hW1]; exact alloc_at _ _ rfl
  have hwW : w.heap.size < W.heap.size := by rw [hW]; simp
  have hl : LeftAt W1 W.heap.size 400 := ⟨by rw [hW1]; simp, blk_cell (i := 0) hblk1 (by simp), by rw [hW1]; simp⟩
  have hsz : W.heap.size = w.heap.size + 1 := by rw [hW]; simp
  have HC := right_within t w W1 _ 40 400 W.heap.size h (hbW.trans (hbW1.mono hbW.size)) (by omega) hl (by omega) (by omega)
  have HB : Hid (Below w.heap.size w W1) := hbW.trans (hbW1.mono hbW.size)
  have HOK : Hid ((t.right (41 - 40) && decide (t.n ≤ 400)) = t.ok) := by
    show _ = _
    unfold Tm.ok
    rw [Bool.and_comm]
  rw [HOK.out] at HC
  rw [hW1, hW] at HC
  have hsz2 : W1.heap.size = w.heap.size + 2 := by rw [hW1]; simp [hsz]
  rw [show (w.alloc (.cells #[.int .i64 k, .string s, .int .i64 n, .slice ao len cap] 41)).heap.size = w.heap.size + 1 by simp] at HC
  replace HC : Hid _ := HC
  clear h hl hblk hblk1 hbW hbW1 HOK
  go_enter Tryz.func55, Tryz.ntmps55
  go_wp2_with (go_at_call 62; refine (Calls.mono HC.out ?_); rintro e w1 ⟨l3, rfl, hb, hl3, hle3, hq⟩; rw [← hW, ← hW1] at hb; have HB1 : Hid (Below w.heap.size w w1) := HB.out.trans (hb.below (by omega) (by omega)); clear hb hl3 hq)
  go_ret
  exact ⟨rfl, HB1.out⟩
end Go.Proofs.YtmhmlkdoaojimapGreatDoor
