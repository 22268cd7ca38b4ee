/- Four texts in one. -/
import Derived.WalkKit
import Derived.WalkSpells
import Derived.ProofKit
import Derived.Test.YtenmhpalpfppmaoGreatDoorRows
import Derived.Lib.IndexAny
import Derived.Laws.IdiomStrings
/- Which names are right. Plain. -/
namespace Go.Proofs.YtenmhpalpfppmaoGreatDoor
open Go.RowKit

def charOk (c : UInt8) : Bool := !(decide (c.toNat < 33) || decide (126 < c.toNat) || decide (c.toNat = 39) || decide (c.toNat = 34))
def nameOk (s : ByteArray) : Bool := s.data.toList.all charOk && decide (1 ≤ s.size ∧ s.size ≤ 20)

theorem take_at (s : ByteArray) (k : Nat) (h : k < s.size) : s.data.toList.take (k + 1) = s.data.toList.take k ++ [s[k]] := by
  rw [List.take_succ_eq_append_getElem (by simpa using h)]; rfl
theorem mem_s (s : ByteArray) (k : Nat) (h : k < s.size) : s[k] ∈ s.data.toList := by
  show s.data[k] ∈ s.data.toList
  simp

end Go.Proofs.YtenmhpalpfppmaoGreatDoor

/- Which bytes make a sign of their own. -/
namespace Go.Proofs.YtenmhpalpfppmaoGreatDoor

def symL : List UInt8 := [43, 45, 42, 47, 92, 94, 60, 62, 61, 126, 58, 46, 63, 64, 35, 38, 36]
def isSym (c : UInt8) : Bool := symL.contains c
abbrev symS : ByteArray := { data := #[43, 45, 42, 47, 92, 94, 60, 62, 61, 126, 58, 46, 63, 64, 35, 38, 36] }
theorem isSym_index (c : UInt8) : decide (0 ≤ Lib.indexByte symS.data.toList c) = isSym c := (Lib.contains_iff_indexByte _ _).symm
theorem u8_cast (c : UInt8) : ((c.toNat : Int)).toNat.toUInt8 = c := by simp
theorem u8_of {a : Int} (h : (Lit.int .u8 a).wf = true) : ∃ c : UInt8, a = (c.toNat : Int) := by
  have : 0 ≤ a ∧ a ≤ 255 := by
    have h2 : IntKind.u8.min ≤ a ∧ a ≤ IntKind.u8.max := by simpa [Lit.wf] using h
    exact h2
  refine ⟨⟨⟨a.toNat, by omega⟩⟩, ?_⟩
  show a = ((a.toNat : Nat) : Int)
  omega
end Go.Proofs.YtenmhpalpfppmaoGreatDoor

/- The signs of a text, as a plain function. -/
namespace Go.Proofs.YtenmhpalpfppmaoGreatDoor
open Go.RowKit

theorem ret_b {a b : Bool} (h : a = b) : Ending.returned (.bool a) = .returned (.bool b) := by rw [h]

structure Sg where
  kind : Int
  text : ByteArray
  num : Int
  at_ : Nat
  near : Bool

def at8 (t : ByteArray) (i : Nat) : UInt8 := t.data.toList.getD i 0
theorem at8_eq (t : ByteArray) (i : Nat) (h : i < t.size) : at8 t i = t[i] := by
  unfold at8
  have : i < t.data.toList.length := by simpa using h
  simp only [List.getD_eq_getElem?_getD, List.getElem?_eq_getElem this, Option.getD_some]
  rfl
theorem drop_at (t : ByteArray) (i : Nat) (h : i < t.size) : t.data.toList.drop i = t[i] :: t.data.toList.drop (i + 1) := by
  rw [List.drop_eq_getElem_cons (show i < t.data.toList.length by simpa using h)]
  rfl
theorem drop_end (t : ByteArray) (i : Nat) (h : ¬ i < t.size) : t.data.toList.drop i = [] := List.drop_eq_nil_of_le (by simp; omega)

def isSmall (c : UInt8) : Bool := decide (97 ≤ c.toNat ∧ c.toNat ≤ 122)
def isGreat (c : UInt8) : Bool := decide ((65 ≤ c.toNat ∧ c.toNat ≤ 90) ∨ c.toNat = 95)
def isFig (c : UInt8) : Bool := decide (48 ≤ c.toNat ∧ c.toNat ≤ 57)
def isWord (c : UInt8) : Bool := isSmall c || isGreat c || isFig c
def isBlank (c : UInt8) : Bool := decide (c.toNat = 32 ∨ c.toNat = 9 ∨ c.toNat = 10)
def not10 (c : UInt8) : Bool := decide (c.toNat ≠ 10)
def not39 (c : UInt8) : Bool := decide (c.toNat ≠ 39)

/-- how many bytes of a kind stand at a place -/
def run (t : ByteArray) (p : UInt8 → Bool) (i : Nat) : Nat := ((t.data.toList.drop i).takeWhile p).length
theorem run_yes {t : ByteArray} {p : UInt8 → Bool} {i : Nat} (h : i < t.size) (hp : p t[i] = true) : run t p i = run t p (i + 1) + 1 := by
  unfold run; rw [drop_at t i h, List.takeWhile_cons, if_pos hp, List.length_cons]
theorem run_no {t : ByteArray} {p : UInt8 → Bool} {i : Nat} (h : i < t.size) (hp : p t[i] = false) : run t p i = 0 := by
  unfold run; rw [drop_at t i h, List.takeWhile_cons, hp]; rfl
theorem run_end {t : ByteArray} {p : UInt8 → Bool} {i : Nat} (h : ¬ i < t.size) : run t p i = 0 := by
  unfold run; rw [drop_end t i h]; rfl
theorem run_le (t : ByteArray) (p : UInt8 → Bool) (i : Nat) : run t p i ≤ t.size - i := by
  unfold run
  have := (List.takeWhile_prefix p (l := t.data.toList.drop i)).length_le
  rw [List.length_drop] at this
  simpa using this
theorem run_at {t : ByteArray} {p : UInt8 → Bool} : ∀ (n i : Nat), t.size - i ≤ n → ∀ j, i ≤ j → j < i + run t p i → ∃ h : j < t.size, p t[j] = true := by
  intro n
  induction n with
  | zero => intro i hn j hj hlt; have := run_le t p i; omega
  | succ n ih =>
    intro i hn j hj hlt
    by_cases hi : i < t.size
    · cases hp : p t[i] with
      | false => rw [run_no hi hp] at hlt; omega
      | true =>
        rw [run_yes hi hp] at hlt
        by_cases e : j = i
        · subst e; exact ⟨hi, hp⟩
        · exact ih (i + 1) (by omega) j (by omega) (by omega)
    · rw [run_end hi] at hlt; omega
theorem run_stop {t : ByteArray} {p : UInt8 → Bool} : ∀ (n i : Nat), t.size - i ≤ n → ∀ h : i + run t p i < t.size, p t[i + run t p i] = false := by
  intro n
  induction n with
  | zero => intro i hn h; omega
  | succ n ih =>
    intro i hn h
    have hi : i < t.size := by omega
    cases hp : p t[i] with
    | false => have e := run_no hi hp; simp only [e] at h ⊢; exact hp
    | true =>
      have e := run_yes hi hp
      have e2 : i + run t p i = i + 1 + run t p (i + 1) := by omega
      have h2 : i + 1 + run t p (i + 1) < t.size := by omega
      have := ih (i + 1) (by omega) h2
      simp only [e2]; exact this

/-- figures, of a number up to the greatest -/
def sgNum : List UInt8 → Int → Option (Int × Nat)
  | [], a => some (a, 0)
  | c :: l, a => if isFig c then (if 999999999 < 10 * a + (c.toNat : Int) - 48 then none else (sgNum l (10 * a + (c.toNat : Int) - 48)).map fun x => (x.1, x.2 + 1)) else some (a, 0)

def isEnd (t : ByteArray) (i : Nat) : Bool :=
  decide ((at8 t i).toNat = 46) && (decide (i = 0) || !isSym (at8 t (i - 1))) && (decide (i + 1 = t.size) || isBlank (at8 t (i + 1)) || decide ((at8 t (i + 1)).toNat = 37))

def mkSg (t : ByteArray) (kind : Int) (text : ByteArray) (num : Int) (i e : Nat) : Sg × Nat := (⟨kind, text, num, i, decide (e < t.size) && decide ((at8 t e).toNat = 40)⟩, e)
def badSg (t : ByteArray) (i : Nat) : Sg × Nat := mkSg t 6 (t.extract i (i + 1)) 0 i (i + 1)
def isMark (c : UInt8) : Bool := decide (c.toNat = 40 ∨ c.toNat = 41 ∨ c.toNat = 91 ∨ c.toNat = 93 ∨ c.toNat = 44 ∨ c.toNat = 124)
def isLone (c : UInt8) : Bool := decide (c.toNat = 33 ∨ c.toNat = 59)

def nameSg (t : ByteArray) (kind : Int) (p : UInt8 → Bool) (i : Nat) : Sg × Nat :=
  if run t p i ≤ 20 then mkSg t kind (t.extract i (i + run t p i)) 0 i (i + run t p i) else badSg t i
def numSg (t : ByteArray) (i : Nat) : Sg × Nat :=
  match sgNum (t.data.toList.drop i) 0 with
  | some (v, k) => mkSg t 3 ⟨#[]⟩ v i (i + k)
  | none => badSg t i
def quotSg (t : ByteArray) (i : Nat) : Sg × Nat :=
  if i + 1 + run t not39 (i + 1) < t.size ∧ nameOk (t.extract (i + 1) (i + 1 + run t not39 (i + 1))) = true then mkSg t 1 (t.extract (i + 1) (i + 1 + run t not39 (i + 1))) 0 i (i + run t not39 (i + 1) + 2) else badSg t i
def oneSg (t : ByteArray) (kind : Int) (i : Nat) : Sg × Nat := mkSg t kind (t.extract i (i + 1)) 0 i (i + 1)

/-- the sign at a place, and the place behind it -/
def signAt (t : ByteArray) (i : Nat) : Sg × Nat :=
  if isSmall (at8 t i) then nameSg t 1 isWord i
  else if isGreat (at8 t i) then nameSg t 2 isWord i
  else if isFig (at8 t i) then numSg t i
  else if (at8 t i).toNat = 39 then quotSg t i
  else if isLone (at8 t i) then oneSg t 1 i
  else if isMark (at8 t i) then oneSg t 4 i
  else if isEnd t i then oneSg t 5 i
  else if isSym (at8 t i) then nameSg t 1 isSym i
  else badSg t i

/-- one step: a sign, or what parts them; and the place behind -/
def stepAt (t : ByteArray) (i : Nat) : Option Sg × Nat :=
  if isBlank (at8 t i) then (none, i + 1)
  else if (at8 t i).toNat = 37 then (none, i + run t not10 i)
  else (some (signAt t i).1, (signAt t i).2)

def sgsF (t : ByteArray) : Nat → Nat → List Sg
  | 0, _ => []
  | n + 1, i => if i < t.size then (stepAt t i).1.toList ++ sgsF t n (stepAt t i).2 else []
def sgs (t : ByteArray) (i : Nat) : List Sg := sgsF t (t.size - i) i

theorem sgNum_le : ∀ (l : List UInt8) (a v : Int) (k : Nat), sgNum l a = some (v, k) → k ≤ l.length := by
  intro l
  induction l with
  | nil => intro a v k h; simp [sgNum] at h; omega
  | cons c l ih =>
    intro a v k h
    unfold sgNum at h
    split at h
    · split at h
      · cases h
      · rw [Option.map_eq_some_iff] at h
        obtain ⟨⟨v', k'⟩, h1, h2⟩ := h
        have := ih _ _ _ h1
        simp at h2
        simp; omega
    · simp at h; omega
theorem sgNum_pos {c : UInt8} {l : List UInt8} {v : Int} {k : Nat} (hc : isFig c = true) (h : sgNum (c :: l) 0 = some (v, k)) : 0 < k := by
  unfold sgNum at h
  rw [if_pos hc] at h
  split at h
  · cases h
  · rw [Option.map_eq_some_iff] at h
    obtain ⟨⟨v', k'⟩, h1, h2⟩ := h
    simp at h2; omega

theorem badSg_end {t : ByteArray} {i : Nat} (h : i < t.size) : i < (badSg t i).2 ∧ (badSg t i).2 ≤ t.size := by
  unfold badSg mkSg; simp; omega
theorem oneSg_end {t : ByteArray} {i : Nat} {k : Int} (h : i < t.size) : i < (oneSg t k i).2 ∧ (oneSg t k i).2 ≤ t.size := by
  unfold oneSg mkSg; simp; omega
theorem nameSg_end {t : ByteArray} {i : Nat} {k : Int} {p : UInt8 → Bool} (h : i < t.size) (hp : p t[i] = true) : i < (nameSg t k p i).2 ∧ (nameSg t k p i).2 ≤ t.size := by
  have h1 := run_yes h hp
  have h2 := run_le t p i
  unfold nameSg
  split
  · unfold mkSg; simp; omega
  · exact badSg_end h
theorem signAt_end {t : ByteArray} {i : Nat} (h : i < t.size) : i < (signAt t i).2 ∧ (signAt t i).2 ≤ t.size := by
  unfold signAt
  rw [at8_eq t i h]
  split
  · rename_i hc; exact nameSg_end h (by unfold isWord; rw [hc]; rfl)
  split
  · rename_i hc; exact nameSg_end h (by unfold isWord; rw [hc]; simp)
  split
  · rename_i hc
    unfold numSg
    split
    · rename_i v k hk
      rw [drop_at t i h] at hk
      have h1 := sgNum_pos hc hk
      have h2 := sgNum_le _ _ _ _ hk
      simp at h2
      unfold mkSg; simp; omega
    · exact badSg_end h
  split
  · unfold quotSg
    split
    · unfold mkSg; simp; omega
    · exact badSg_end h
  split
  · exact oneSg_end h
  split
  · exact oneSg_end h
  split
  · exact oneSg_end h
  split
  · rename_i hc; exact nameSg_end h hc
  · exact badSg_end h
theorem stepAt_end {t : ByteArray} {i : Nat} (h : i < t.size) : i < (stepAt t i).2 ∧ (stepAt t i).2 ≤ t.size := by
  unfold stepAt
  split
  · simp; omega
  split
  · rename_i hc
    have hp : not10 t[i] = true := by unfold not10; rw [← at8_eq t i h]; simp; omega
    have h1 := run_yes h hp
    have h2 := run_le t not10 i
    simp; omega
  · exact signAt_end h
theorem sgsF_more {t : ByteArray} : ∀ (n m i : Nat), t.size - i ≤ n → t.size - i ≤ m → sgsF t n i = sgsF t m i := by
  intro n
  induction n with
  | zero =>
    intro m i hn hm
    cases m with
    | zero => rfl
    | succ m => unfold sgsF; rw [if_neg (by omega)]
  | succ n ih =>
    intro m i hn hm
    cases m with
    | zero => unfold sgsF; rw [if_neg (by omega)]
    | succ m =>
      unfold sgsF
      by_cases hi : i < t.size
      · rw [if_pos hi, if_pos hi]
        have := stepAt_end hi
        rw [ih m _ (by omega) (by omega)]
      · rw [if_neg hi, if_neg hi]
theorem sgs_step {t : ByteArray} {i : Nat} (h : i < t.size) : sgs t i = (stepAt t i).1.toList ++ sgs t (stepAt t i).2 := by
  have := stepAt_end h
  obtain ⟨n, hn⟩ : ∃ n, t.size - i = n + 1 := ⟨t.size - i - 1, by omega⟩
  unfold sgs
  rw [hn]
  show (if i < t.size then _ else _) = _
  rw [if_pos h, sgsF_more n (t.size - (stepAt t i).2) _ (by omega) (Nat.le_refl _)]
theorem sgs_end {t : ByteArray} {i : Nat} (h : ¬ i < t.size) : sgs t i = [] := by
  unfold sgs
  rw [show t.size - i = 0 by omega]; rfl
end Go.Proofs.YtenmhpalpfppmaoGreatDoor

/- The bytes of a number, seven bits each, as a plain function, and what one round of the loop does to them. -/
namespace Go.Proofs.YtenmhpalpfppmaoGreatDoor
open Go.RowKit

def varB (n : Nat) : List UInt8 := if h : 127 < n then UInt8.ofNat (n % 128 + 128) :: varB (n / 128) else [UInt8.ofNat n]

theorem varB_more {n : Nat} (h : 127 < n) : varB n = UInt8.ofNat (n % 128 + 128) :: varB (n / 128) := by
  rw [varB]; simp [h]
theorem varB_last {n : Nat} (h : ¬ 127 < n) : varB n = [UInt8.ofNat n] := by
  rw [varB]; simp [h]

theorem varB_len (n : Nat) : (varB n).length ≤ n + 1 := by
  induction n using Nat.strongRecOn with
  | ind n ih =>
    by_cases h : 127 < n
    · rw [varB_more h, List.length_cons]
      have := ih (n / 128) (by omega)
      omega
    · rw [varB_last h]; simp

theorem size_mk (l : List UInt8) : (⟨l.toArray⟩ : ByteArray).size = l.length := by simp [ByteArray.size]

def bytesV (l : List UInt8) : List Value := l.map fun b => Value.int .u8 (b.toNat : Int)

theorem bytesV_length (l : List UInt8) : (bytesV l).length = l.length := by simp [bytesV]
theorem bytesV_append (l m : List UInt8) : bytesV (l ++ m) = bytesV l ++ bytesV m := by simp [bytesV]
theorem bytesV_get (l : List UInt8) (j : Nat) (h : j < l.length) : (bytesV l)[j]? = some (Value.int .u8 (l[j].toNat : Int)) := by
  simp [bytesV, h]

/-- what an append of one byte leaves: the row that is owned, and that nothing below has turned -/
theorem own_push {w wr w1 : World} {B e : Nat} {v v' : Value} {p : List UInt8} {o : Obj} {x : Int} (b : UInt8) (hx : x = (b.toNat : Int)) (hb : Below B w wr) (hB : B ≤ wr.heap.size)
    (hown : wr.ownsRow B e 1 v p.length (bytesV p)) (hown' : w1.ownsRow B e 1 v' (p.length + 1) (bytesV p ++ [Value.int .u8 x])) (hg : (wr.alloc o).grownBy w1 v.ownBlock) :
    w1.ownsRow B e 1 v' (p ++ [b]).length (bytesV (p ++ [b])) ∧ Below B w w1 := by
  refine ⟨by rw [bytesV_append, List.length_append]; subst hx; exact hown', (hb.alloc hB o).grown hg (by simp; omega) ?_⟩
  intro k hk
  rcases hown.2 with ⟨rfl, _⟩ | ⟨g, cap, cur, rfl, hge, _⟩
  · cases hk
  · cases hk; exact hge

/-- what is owned, as the bytes of a string -/
theorem own_string {P : Program} {w : World} {B : Nat} {v : Value} {p : List UInt8} (src dst e : TypeId) (hs : P.underlying src = some (.slice e)) (he : P.underlying e = some (.int .u8)) (hd : P.underlying dst = some .string)
    (h : w.ownsRow B e 1 v p.length (bytesV p)) (hp : p ≠ []) : (convert src dst v).run P w = .ok (.string ⟨p.toArray⟩) w := by
  have h' := h
  rcases h.2 with ⟨rfl, h0⟩ | ⟨g, cap, cur, rfl, hg, hh, hnc, hcp, hcs, htake⟩
  · exact absurd (List.length_eq_zero_iff.1 h0) hp
  · refine run_convert_bytes_back w src dst e ⟨g, 0, none⟩ cap p hs he hd fun j hj => ?_
    rw [Addr.add_lit, Nat.zero_add, h'.cellAt j (by omega)]
    simp [bytesV, hj]

/-- .. of nothing -/
theorem own_string_nil {P : Program} {w : World} {B : Nat} {v : Value} (src dst e : TypeId) (hs : P.underlying src = some (.slice e)) (he : P.underlying e = some (.int .u8)) (hd : P.underlying dst = some .string)
    (h : w.ownsRow B e 1 v 0 (bytesV [])) : (convert src dst v).run P w = .ok (.string ⟨#[]⟩) w := by
  rcases h.2 with ⟨rfl, h0⟩ | ⟨g, cap, cur, rfl, hg, hh, hnc, hcp, hcs, htake⟩
  · rw [run_convert_bytes_string w src dst e none 0 0 hs he hd]; rfl
  · exact run_convert_bytes_back w src dst e ⟨g, 0, none⟩ cap [] hs he hd fun j hj => by simp at hj
end Go.Proofs.YtenmhpalpfppmaoGreatDoor
