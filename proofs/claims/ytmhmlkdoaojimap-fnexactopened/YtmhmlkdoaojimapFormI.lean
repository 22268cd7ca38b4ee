/- A term told by its Kind: formOf, and what is right of each form but for its kids (the code's). -/
import Derived.Test.YtmhmlkdoaojimapRows
import Derived.Test.YtmhmlkdoaojimapTmOkP
import Derived.Test.YtmhmlkdoaojimapNameI
namespace Go.Proofs.Ytmhmlkdoaojimap
open Go.RowKit

def formV (k : Int) (s : ByteArray) (n : Int) (ao : Option Addr) (l cap : Nat) : Value :=
  if k = 1 ∧ s.size = 0 ∧ l = 0 then .iface 89 (.agg #[.int .i64 n])
  else if k = 3 ∧ s.size = 0 ∧ l = 0 then .iface 98 (.agg #[.int .i64 n])
  else if k = 2 ∧ n = 0 ∧ l = 0 then .iface 100 (.agg #[.string s])
  else if k = 4 ∧ n = 0 then .iface 91 (.agg #[.string s, .slice ao l cap])
  else .iface 102 (.agg #[])
theorem ret_val {a b : Value} (h : a = b) : Ending.returned a = .returned b := by rw [h]

theorem implForm (k : Int) (s : ByteArray) (n : Int) (ao : Option Addr) (l cap : Nat) (hl : l ≤ maxLen) (w : World) :
    Calls Try.prog 54 #[.agg #[.int .i64 k, .string s, .int .i64 n, .slice ao l cap]] w fun e w' => e = .returned (formV k s n ao l cap) ∧ Below w.heap.size w w' := by
  have hb0 : Below w.heap.size w (w.alloc (.cells #[.int .i64 k, .string s, .int .i64 n, .slice ao l cap] 54)) := (Below.refl _ _).alloc (Nat.le_refl _) _
  unfold maxLen at hl
  by_cases h1 : k = 1
  · subst h1
    by_cases hz : s.size = 0
    · obtain rfl := empty_of hz
      clear hz
      by_cases h0 : l = 0
      · subst h0
        go_enter Try.func54, Try.ntmps54
        go_wp2
        go_ret
        exact ⟨ret_val (by simp [formV, show (⟨#[]⟩ : ByteArray).size = 0 from rfl]), hb0⟩
      · have e0 : ((l : Int) == 0) = false := beq_eq_false_iff_ne.2 (by omega)
        go_enter Try.func54, Try.ntmps54
        go_wp2
        go_ret
        exact ⟨ret_val (by simp [formV, h0]), hb0⟩
    · have hq := not_empty hz
      go_enter Try.func54, Try.ntmps54
      go_wp2
      go_ret
      exact ⟨ret_val (by simp [formV, hz]), hb0⟩
  by_cases h3 : k = 3
  · subst h3
    by_cases hz : s.size = 0
    · obtain rfl := empty_of hz
      clear hz
      by_cases h0 : l = 0
      · subst h0
        go_enter Try.func54, Try.ntmps54
        go_wp2
        go_ret
        exact ⟨ret_val (by simp [formV, show (⟨#[]⟩ : ByteArray).size = 0 from rfl]), hb0⟩
      · have e0 : ((l : Int) == 0) = false := beq_eq_false_iff_ne.2 (by omega)
        go_enter Try.func54, Try.ntmps54
        go_wp2
        go_ret
        exact ⟨ret_val (by simp [formV, h0]), hb0⟩
    · have hq := not_empty hz
      go_enter Try.func54, Try.ntmps54
      go_wp2
      go_ret
      exact ⟨ret_val (by simp [formV, hz]), hb0⟩
  by_cases h2 : k = 2
  · subst h2
    by_cases hz : n = 0
    · subst hz
      by_cases h0 : l = 0
      · subst h0
        go_enter Try.func54, Try.ntmps54
        go_wp2
        go_ret
        exact ⟨ret_val (by simp [formV]), hb0⟩
      · have e0 : ((l : Int) == 0) = false := beq_eq_false_iff_ne.2 (by omega)
        go_enter Try.func54, Try.ntmps54
        go_wp2
        go_ret
        exact ⟨ret_val (by simp [formV, h0]), hb0⟩
    · have e0 : (n == 0) = false := beq_eq_false_iff_ne.2 hz
      go_enter Try.func54, Try.ntmps54
      go_wp2
      go_ret
      exact ⟨ret_val (by simp [formV, hz]), hb0⟩
  by_cases h4 : k = 4
  · subst h4
    by_cases hz : n = 0
    · subst hz
      go_enter Try.func54, Try.ntmps54
      go_wp2
      go_ret
      exact ⟨ret_val (by simp [formV]), hb0⟩
    · have e0 : (n == 0) = false := beq_eq_false_iff_ne.2 hz
      go_enter Try.func54, Try.ntmps54
      go_wp2
      go_ret
      exact ⟨ret_val (by simp [formV, hz]), hb0⟩
  have e1 : (k == 1) = false := beq_eq_false_iff_ne.2 h1
  have e2 : (k == 2) = false := beq_eq_false_iff_ne.2 h2
  have e3 : (k == 3) = false := beq_eq_false_iff_ne.2 h3
  have e4 : (k == 4) = false := beq_eq_false_iff_ne.2 h4
  go_enter Try.func54, Try.ntmps54
  go_wp2
  go_ret
  exact ⟨ret_val (by simp [formV, h1, h2, h3, h4]), hb0⟩

theorem rightStruct (s : ByteArray) (hs : s.size ≤ maxLen) (ao : Option Addr) (l cap : Nat) (hl : l ≤ maxLen) (w : World) :
    Calls Try.prog 56 #[.agg #[.string s, .slice ao l cap]] w fun e w' => e = .returned (.bool (nameOk s && decide (1 ≤ l ∧ l ≤ 5))) ∧ Below w.heap.size w w' := by
  have hb0 : Below w.heap.size w (w.alloc (.cells #[.string s, .slice ao l cap] 91)) := (Below.refl _ _).alloc (Nat.le_refl _) _
  have HN : Hid (∀ w, Calls Try.prog 58 #[.string s] w fun e w' => e = .returned (.bool (nameOk s)) ∧ w' = w) := implName s hs
  unfold maxLen at hl
  clear hs
  cases hN : nameOk s with
  | true =>
    rw [hN] at HN
    by_cases h1 : 1 ≤ l
    · go_enter Try.func56, Try.ntmps56
      go_wp2_with (go_at_call 58; refine (Calls.mono (HN.out _) ?_); rintro e w1 ⟨rfl, rfl⟩)
      go_ret
      exact ⟨ret_bool (by rw [Bool.true_and]; congr 1; apply propext; omega), hb0⟩
    · go_enter Try.func56, Try.ntmps56
      go_wp2_with (go_at_call 58; refine (Calls.mono (HN.out _) ?_); rintro e w1 ⟨rfl, rfl⟩)
      go_ret
      exact ⟨ret_bool (by first | rfl | (rw [Bool.true_and]; symm; exact decide_eq_false (by omega))), hb0⟩
  | false =>
    rw [hN] at HN
    go_enter Try.func56, Try.ntmps56
    go_wp2_with (go_at_call 58; refine (Calls.mono (HN.out _) ?_); rintro e w1 ⟨rfl, rfl⟩)
    go_ret
    exact ⟨ret_bool (by rw [Bool.false_and]), hb0⟩

theorem rightAtom (s : ByteArray) (hs : s.size ≤ maxLen) (w : World) :
    Calls Try.prog 80 #[.agg #[.string s]] w fun e w' => e = .returned (.bool (nameOk s)) ∧ Below w.heap.size w w' := by
  have hb0 : Below w.heap.size w (w.alloc (.cells #[.string s] 100)) := (Below.refl _ _).alloc (Nat.le_refl _) _
  have HN : Hid (∀ w, Calls Try.prog 58 #[.string s] w fun e w' => e = .returned (.bool (nameOk s)) ∧ w' = w) := implName s hs
  clear hs
  go_enter Try.func80, Try.ntmps80
  go_wp2_with (go_at_call 58; refine (Calls.mono (HN.out _) ?_); rintro e w1 ⟨rfl, rfl⟩)
  go_ret
  exact ⟨rfl, hb0⟩

theorem rightNo (w : World) :
    Calls Try.prog 82 #[.agg #[]] w fun e w' => e = .returned (.bool false) ∧ Below w.heap.size w w' := by
  go_enter Try.func82, Try.ntmps82
  go_wp2
  go_ret
  exact ⟨rfl, (Below.refl _ _).alloc (Nat.le_refl _) _⟩

theorem rightVar (n : Int) (w : World) :
    Calls Try.prog 75 #[.agg #[.int .i64 n]] w fun e w' => e = .returned (.bool (decide (0 ≤ n ∧ n ≤ 99999))) ∧ Below w.heap.size w w' := by
  have hb0 : Below w.heap.size w (w.alloc (.cells #[.int .i64 n] 89)) := (Below.refl _ _).alloc (Nat.le_refl _) _
  by_cases h1 : 0 ≤ n
  · go_enter Try.func75, Try.ntmps75
    go_wp2
    go_ret
    exact ⟨ret_bool (by congr 1; apply propext; omega), hb0⟩
  · go_enter Try.func75, Try.ntmps75
    go_wp2
    go_ret
    exact ⟨ret_bool (by first | rfl | (simp; omega) | simp [h1]), hb0⟩

theorem rightInt (n : Int) (w : World) :
    Calls Try.prog 78 #[.agg #[.int .i64 n]] w fun e w' => e = .returned (.bool (decide (-999999999 ≤ n ∧ n ≤ 999999999))) ∧ Below w.heap.size w w' := by
  have hb0 : Below w.heap.size w (w.alloc (.cells #[.int .i64 n] 98)) := (Below.refl _ _).alloc (Nat.le_refl _) _
  by_cases h1 : -999999999 ≤ n
  · go_enter Try.func78, Try.ntmps78
    go_wp2
    go_ret
    exact ⟨ret_bool (by congr 1; apply propext; omega), hb0⟩
  · go_enter Try.func78, Try.ntmps78
    go_wp2
    go_ret
    exact ⟨ret_bool (by first | rfl | (simp; omega) | simp [h1]), hb0⟩

@[go_sem] theorem as_var_var (v : Value) (w : World) : (Instr.typeAssert (.iface 89 v) 86 89 true).run Try.prog w = .ok (.tuple #[v, .bool true]) w := by kernel_rfl
@[go_sem] theorem as_int_var (v : Value) (w : World) : (Instr.typeAssert (.iface 98 v) 86 89 true).run Try.prog w = .ok (.tuple #[.agg #[.int .i64 0], .bool false]) w := by kernel_rfl
@[go_sem] theorem as_atom_var (v : Value) (w : World) : (Instr.typeAssert (.iface 100 v) 86 89 true).run Try.prog w = .ok (.tuple #[.agg #[.int .i64 0], .bool false]) w := by kernel_rfl
@[go_sem] theorem as_struct_var (v : Value) (w : World) : (Instr.typeAssert (.iface 91 v) 86 89 true).run Try.prog w = .ok (.tuple #[.agg #[.int .i64 0], .bool false]) w := by kernel_rfl
@[go_sem] theorem as_no_var (v : Value) (w : World) : (Instr.typeAssert (.iface 102 v) 86 89 true).run Try.prog w = .ok (.tuple #[.agg #[.int .i64 0], .bool false]) w := by kernel_rfl
@[go_sem] theorem as_var_int (v : Value) (w : World) : (Instr.typeAssert (.iface 89 v) 86 98 true).run Try.prog w = .ok (.tuple #[.agg #[.int .i64 0], .bool false]) w := by kernel_rfl
@[go_sem] theorem as_int_int (v : Value) (w : World) : (Instr.typeAssert (.iface 98 v) 86 98 true).run Try.prog w = .ok (.tuple #[v, .bool true]) w := by kernel_rfl
@[go_sem] theorem as_atom_int (v : Value) (w : World) : (Instr.typeAssert (.iface 100 v) 86 98 true).run Try.prog w = .ok (.tuple #[.agg #[.int .i64 0], .bool false]) w := by kernel_rfl
@[go_sem] theorem as_struct_int (v : Value) (w : World) : (Instr.typeAssert (.iface 91 v) 86 98 true).run Try.prog w = .ok (.tuple #[.agg #[.int .i64 0], .bool false]) w := by kernel_rfl
@[go_sem] theorem as_no_int (v : Value) (w : World) : (Instr.typeAssert (.iface 102 v) 86 98 true).run Try.prog w = .ok (.tuple #[.agg #[.int .i64 0], .bool false]) w := by kernel_rfl
@[go_sem] theorem as_var_atom (v : Value) (w : World) : (Instr.typeAssert (.iface 89 v) 86 100 true).run Try.prog w = .ok (.tuple #[.agg #[.string ⟨#[]⟩], .bool false]) w := by kernel_rfl
@[go_sem] theorem as_int_atom (v : Value) (w : World) : (Instr.typeAssert (.iface 98 v) 86 100 true).run Try.prog w = .ok (.tuple #[.agg #[.string ⟨#[]⟩], .bool false]) w := by kernel_rfl
@[go_sem] theorem as_atom_atom (v : Value) (w : World) : (Instr.typeAssert (.iface 100 v) 86 100 true).run Try.prog w = .ok (.tuple #[v, .bool true]) w := by kernel_rfl
@[go_sem] theorem as_struct_atom (v : Value) (w : World) : (Instr.typeAssert (.iface 91 v) 86 100 true).run Try.prog w = .ok (.tuple #[.agg #[.string ⟨#[]⟩], .bool false]) w := by kernel_rfl
@[go_sem] theorem as_no_atom (v : Value) (w : World) : (Instr.typeAssert (.iface 102 v) 86 100 true).run Try.prog w = .ok (.tuple #[.agg #[.string ⟨#[]⟩], .bool false]) w := by kernel_rfl
@[go_sem] theorem as_var_struct (v : Value) (w : World) : (Instr.typeAssert (.iface 89 v) 86 91 true).run Try.prog w = .ok (.tuple #[.agg #[.string ⟨#[]⟩, .slice none 0 0], .bool false]) w := by kernel_rfl
@[go_sem] theorem as_int_struct (v : Value) (w : World) : (Instr.typeAssert (.iface 98 v) 86 91 true).run Try.prog w = .ok (.tuple #[.agg #[.string ⟨#[]⟩, .slice none 0 0], .bool false]) w := by kernel_rfl
@[go_sem] theorem as_atom_struct (v : Value) (w : World) : (Instr.typeAssert (.iface 100 v) 86 91 true).run Try.prog w = .ok (.tuple #[.agg #[.string ⟨#[]⟩, .slice none 0 0], .bool false]) w := by kernel_rfl
@[go_sem] theorem as_struct_struct (v : Value) (w : World) : (Instr.typeAssert (.iface 91 v) 86 91 true).run Try.prog w = .ok (.tuple #[v, .bool true]) w := by kernel_rfl
@[go_sem] theorem as_no_struct (v : Value) (w : World) : (Instr.typeAssert (.iface 102 v) 86 91 true).run Try.prog w = .ok (.tuple #[.agg #[.string ⟨#[]⟩, .slice none 0 0], .bool false]) w := by kernel_rfl
@[go_sem] theorem me_var_right (f : Nat) (n : Int) (w : World) : (method (f + 1) 89 (.agg #[.int .i64 n]) "loop.example/g00469/impl.right").run Try.prog w = .ok (75, .agg #[.int .i64 n]) w := by kernel_rfl
@[go_sem] theorem me_var_rank (f : Nat) (n : Int) (w : World) : (method (f + 1) 89 (.agg #[.int .i64 n]) "loop.example/g00469/impl.rank").run Try.prog w = .ok (74, .agg #[.int .i64 n]) w := by kernel_rfl
@[go_sem] theorem me_int_right (f : Nat) (n : Int) (w : World) : (method (f + 1) 98 (.agg #[.int .i64 n]) "loop.example/g00469/impl.right").run Try.prog w = .ok (78, .agg #[.int .i64 n]) w := by kernel_rfl
@[go_sem] theorem me_int_rank (f : Nat) (n : Int) (w : World) : (method (f + 1) 98 (.agg #[.int .i64 n]) "loop.example/g00469/impl.rank").run Try.prog w = .ok (77, .agg #[.int .i64 n]) w := by kernel_rfl
@[go_sem] theorem me_atom_right (f : Nat) (s : ByteArray) (w : World) : (method (f + 1) 100 (.agg #[.string s]) "loop.example/g00469/impl.right").run Try.prog w = .ok (80, .agg #[.string s]) w := by kernel_rfl
@[go_sem] theorem me_atom_rank (f : Nat) (s : ByteArray) (w : World) : (method (f + 1) 100 (.agg #[.string s]) "loop.example/g00469/impl.rank").run Try.prog w = .ok (79, .agg #[.string s]) w := by kernel_rfl
@[go_sem] theorem me_struct_right (f : Nat) (s : ByteArray) (ao : Option Addr) (l cap : Nat) (w : World) : (method (f + 1) 91 (.agg #[.string s, .slice ao l cap]) "loop.example/g00469/impl.right").run Try.prog w = .ok (56, .agg #[.string s, .slice ao l cap]) w := by kernel_rfl
@[go_sem] theorem me_struct_rank (f : Nat) (s : ByteArray) (ao : Option Addr) (l cap : Nat) (w : World) : (method (f + 1) 91 (.agg #[.string s, .slice ao l cap]) "loop.example/g00469/impl.rank").run Try.prog w = .ok (76, .agg #[.string s, .slice ao l cap]) w := by kernel_rfl
@[go_sem] theorem me_no_right (f : Nat)  (w : World) : (method (f + 1) 102 (.agg #[]) "loop.example/g00469/impl.right").run Try.prog w = .ok (82, .agg #[]) w := by kernel_rfl
@[go_sem] theorem me_no_rank (f : Nat)  (w : World) : (method (f + 1) 102 (.agg #[]) "loop.example/g00469/impl.rank").run Try.prog w = .ok (81, .agg #[]) w := by kernel_rfl
end Go.Proofs.Ytmhmlkdoaojimap
