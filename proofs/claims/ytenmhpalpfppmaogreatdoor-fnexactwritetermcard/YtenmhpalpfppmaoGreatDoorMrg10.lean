/- Four texts in one. -/
import Derived.Test.YtenmhpalpfppmaoGreatDoorMrg2
import Derived.Test.YtenmhpalpfppmaoGreatDoorMrg9
import Derived.Laws.Rows
import Derived.Laws.NewBlocks
import Derived.Deep.DeepCutAuto
import Derived.Test.YtenmhpalpfppmaoGreatDoorRows
import Derived.Maps.AppendAt
import Derived.ProofKit
/- Figures, one behind the other. Plain. -/
namespace Go.Proofs.YtenmhpalpfppmaoGreatDoor

theorem sgNum_stop {t : ByteArray} {j : Nat} {a : Int} (h : ∀ hj : j < t.size, isFig t[j] = false) : sgNum (t.data.toList.drop j) a = some (a, 0) := by
  by_cases hj : j < t.size
  · rw [drop_at t j hj]; unfold sgNum; rw [if_neg (by rw [h hj]; exact Bool.noConfusion)]
  · rw [drop_end t j hj]; rfl
theorem sgNum_go {t : ByteArray} {j : Nat} {a : Int} (hj : j < t.size) (h : isFig t[j] = true) : sgNum (t.data.toList.drop j) a = if 999999999 < 10 * a + (t[j].toNat : Int) - 48 then none else (sgNum (t.data.toList.drop (j + 1)) (10 * a + (t[j].toNat : Int) - 48)).map fun x => (x.1, x.2 + 1) := by
  rw [drop_at t j hj]; conv => lhs; unfold sgNum
  rw [if_pos h]
/-- what is told of the figures so far -/
def NumAt (t : ByteArray) (i j : Nat) (a : Int) : Prop :=
  (a ≤ 999999999 ∧ sgNum (t.data.toList.drop i) 0 = (sgNum (t.data.toList.drop j) a).map fun x => (x.1, x.2 + (j - i))) ∨ (999999999 < a ∧ sgNum (t.data.toList.drop i) 0 = none)
theorem NumAt.start (t : ByteArray) (i : Nat) : NumAt t i i 0 := by
  refine Or.inl ⟨by omega, ?_⟩
  cases h : sgNum (t.data.toList.drop i) 0 with
  | none => rfl
  | some x => simp
theorem NumAt.next {t : ByteArray} {i j : Nat} {a : Int} (h : NumAt t i j a) (ha : a ≤ 999999999) (hij : i ≤ j) (hj : j < t.size) (hf : isFig t[j] = true) : NumAt t i (j + 1) (10 * a + (t[j].toNat : Int) - 48) := by
  rcases h with ⟨_, h⟩ | ⟨h0, _⟩
  · rw [sgNum_go hj hf] at h
    by_cases hg : 999999999 < 10 * a + (t[j].toNat : Int) - 48
    · rw [if_pos hg] at h; exact Or.inr ⟨hg, h⟩
    · rw [if_neg hg] at h
      refine Or.inl ⟨by omega, ?_⟩
      rw [h, Option.map_map]
      congr 1
      funext x
      show (x.1, x.2 + 1 + (j - i)) = (x.1, x.2 + (j + 1 - i))
      congr 1; omega
  · omega
theorem NumAt.done {t : ByteArray} {i j : Nat} {a : Int} (h : NumAt t i j a) (ha : a ≤ 999999999) (hij : i ≤ j) (hf : ∀ hj : j < t.size, isFig t[j] = false) : numSg t i = mkSg t 3 ⟨#[]⟩ a i j := by
  rcases h with ⟨_, h⟩ | ⟨h0, _⟩
  · rw [sgNum_stop hf] at h
    unfold numSg
    rw [h]
    show mkSg t 3 ⟨#[]⟩ a i (i + (0 + (j - i))) = _
    rw [show i + (0 + (j - i)) = j by omega]
  · omega
theorem NumAt.over {t : ByteArray} {i j : Nat} {a : Int} (h : NumAt t i j a) (ha : 999999999 < a) : numSg t i = badSg t i := by
  rcases h with ⟨h0, _⟩ | ⟨_, h⟩
  · omega
  · unfold numSg; rw [h]

end Go.Proofs.YtenmhpalpfppmaoGreatDoor

/- spec.l05Sign: the sign at a place. -/
namespace Go.Proofs.YtenmhpalpfppmaoGreatDoor
open Go.RowKit

theorem results_ct {P : Program} {fn : Func} {p u : Tmp} {ty : TypeId} (h : fn.results = #[.cell p ty, .tmp u]) (tmps : Array Value) (w : World) (g : Nat) (t : TypeId) (cs : Array Value) (fr : Nat × Nat) (d : TypeDesc)
    (hp : tmps.getD p undef = .pointer (some ⟨g, 0, none⟩)) (hg : w.heap[g]? = some (.cells cs t fr))
    (hu : P.underlying ty = some d) (hd : (match d with | .struct _ | .array _ _ => true | _ => false) = true) (hi : (P.info? ty).map (·.size) = some cs.size) :
    (results fn tmps).run P w = .ok (.tuple #[.agg cs, tmps.getD u undef]) w := by
  have hp' : tmps[p]?.getD undef = .pointer (some ⟨g, 0, none⟩) := by simpa using hp
  simp [results, h, hp', asAddr, run_loadVar_row w g t ty cs fr d hg hu hd hi]

def sgv (s : Sg) (near : Bool) : Value := .agg #[.int .i64 s.kind, .string s.text, .int .i64 s.num, .int .i64 (s.at_ : Int), .bool near]

theorem sg_cell (w : World) (A B : Obj) : ((w.alloc A).alloc B).heap[w.heap.size]? = some A := by
  exact (heap_alloc_old _ _ (by simp)).trans (heap_alloc_new w A)
theorem sg_below (w : World) (A B : Obj) : Below w.heap.size w ((w.alloc A).alloc B) := ((Below.refl _ _).alloc (Nat.le_refl _) _).alloc (by simp) _

set_option maxHeartbeats 4000000 in
set_option maxRecDepth 20000 in
theorem c_sign (t : ByteArray) (i : Nat) (hi : i < t.size) (hs : (t.size : Int) ≤ 3000) (w : World) :
    Calls Tryz.prog 50 #[.string t, .int .i64 (i : Int)] w fun e w' => e = .returned (.tuple #[sgv (signAt t i).1 false, .int .i64 ((signAt t i).2 : Int)]) ∧ Below w.heap.size w w' := by
  have hc := t[i].toNat_lt
  have HS := c_small t[i]
  have HG := c_great t[i]
  have HF := c_fig t[i]
  have HY := spec_sym t[i]
  have HE := c_end t i hi hs
  have hd : signAt t i = if isSmall t[i] then nameSg t 1 isWord i
    else if isGreat t[i] then nameSg t 2 isWord i
    else if isFig t[i] then numSg t i
    else if t[i].toNat = 39 then quotSg t i
    else if isLone t[i] then oneSg t 1 i
    else if isMark t[i] then oneSg t 4 i
    else if isEnd t i then oneSg t 5 i
    else if isSym t[i] then nameSg t 1 isSym i
    else badSg t i := by unfold signAt; rw [at8_eq t i hi]
  obtain ⟨SG, hSG⟩ : ∃ SG, SG = signAt t i := ⟨_, rfl⟩
  rw [← hSG] at hd ⊢
  clear hSG
  cases h1 : isSmall t[i] with
  | true =>
    have hg : isGreat t[i] = false := by unfold isSmall at h1; have := of_decide_eq_true h1; unfold isGreat; exact decide_eq_false (by omega)
    obtain ⟨n, hn⟩ : ∃ n, n = i + run t isWord i := ⟨_, rfl⟩
    have hnl : n ≤ t.size := by have := run_le t isWord i; omega
    have hin : i ≤ n := by omega
    have HRU : Hid (∀ w, Calls Tryz.prog 60 #[.string t, .int .i64 (i : Int)] w fun e w' => e = .returned (.int .i64 (n : Int)) ∧ w' = w) := fun w => by rw [hn]; exact c_run t i (by omega) hs w
    rw [h1] at HS; rw [hg] at HG
    by_cases h20 : (n : Int) - (i : Int) ≤ 20
    · have HD : Hid (SG = mkSg t 1 (t.extract i n) 0 i n) := by show _ = _; rw [hd, h1]; show nameSg t 1 isWord i = _; unfold nameSg; rw [if_pos (by omega), ← hn]
      clear hd hn h1
      go_enter Tryz.func50, Tryz.ntmps50
      go_wp2_with (first | (go_at_call 58; refine (HS _).mono ?_; rintro e w' ⟨rfl, rfl⟩) | (go_at_call 59; refine (HG _).mono ?_; rintro e w' ⟨rfl, rfl⟩) | (go_at_call 60; refine (HRU.out _).mono ?_; rintro e w' ⟨rfl, rfl⟩))
      refine bodyPost_ret_by (results_ct rfl _ _ w.heap.size 66 _ (0, 0) _ rfl (sg_cell _ _ _) Tryz.underlying66 rfl (by kernel_rfl)) rfl ?_
      exact ⟨by rw [HD.out]; rfl, sg_below _ _ _⟩
    · have HD : Hid (SG = badSg t i) := by show _ = _; rw [hd, h1]; show nameSg t 1 isWord i = _; unfold nameSg; rw [if_neg (by omega)]
      clear hd hn h1
      go_enter Tryz.func50, Tryz.ntmps50
      go_wp2_with (first | (go_at_call 58; refine (HS _).mono ?_; rintro e w' ⟨rfl, rfl⟩) | (go_at_call 59; refine (HG _).mono ?_; rintro e w' ⟨rfl, rfl⟩) | (go_at_call 60; refine (HRU.out _).mono ?_; rintro e w' ⟨rfl, rfl⟩))
      refine bodyPost_ret_by (results_ct rfl _ _ w.heap.size 66 _ (0, 0) _ rfl (sg_cell _ _ _) Tryz.underlying66 rfl (by kernel_rfl)) rfl ?_
      exact ⟨by rw [HD.out]; rfl, sg_below _ _ _⟩
  | false =>
  cases h2 : isGreat t[i] with
  | true =>
    obtain ⟨n, hn⟩ : ∃ n, n = i + run t isWord i := ⟨_, rfl⟩
    have hnl : n ≤ t.size := by have := run_le t isWord i; omega
    have hin : i ≤ n := by omega
    have HRU : Hid (∀ w, Calls Tryz.prog 60 #[.string t, .int .i64 (i : Int)] w fun e w' => e = .returned (.int .i64 (n : Int)) ∧ w' = w) := fun w => by rw [hn]; exact c_run t i (by omega) hs w
    rw [h1] at HS; rw [h2] at HG
    by_cases h20 : (n : Int) - (i : Int) ≤ 20
    · have HD : Hid (SG = mkSg t 2 (t.extract i n) 0 i n) := by show _ = _; rw [hd, h1, h2]; show nameSg t 2 isWord i = _; unfold nameSg; rw [if_pos (by omega), ← hn]
      clear hd hn h1 h2
      go_enter Tryz.func50, Tryz.ntmps50
      go_wp2_with (first | (go_at_call 58; refine (HS _).mono ?_; rintro e w' ⟨rfl, rfl⟩) | (go_at_call 59; refine (HG _).mono ?_; rintro e w' ⟨rfl, rfl⟩) | (go_at_call 60; refine (HRU.out _).mono ?_; rintro e w' ⟨rfl, rfl⟩))
      refine bodyPost_ret_by (results_ct rfl _ _ w.heap.size 66 _ (0, 0) _ rfl (sg_cell _ _ _) Tryz.underlying66 rfl (by kernel_rfl)) rfl ?_
      exact ⟨by rw [HD.out]; rfl, sg_below _ _ _⟩
    · have HD : Hid (SG = badSg t i) := by show _ = _; rw [hd, h1, h2]; show nameSg t 2 isWord i = _; unfold nameSg; rw [if_neg (by omega)]
      clear hd hn h1 h2
      go_enter Tryz.func50, Tryz.ntmps50
      go_wp2_with (first | (go_at_call 58; refine (HS _).mono ?_; rintro e w' ⟨rfl, rfl⟩) | (go_at_call 59; refine (HG _).mono ?_; rintro e w' ⟨rfl, rfl⟩) | (go_at_call 60; refine (HRU.out _).mono ?_; rintro e w' ⟨rfl, rfl⟩))
      refine bodyPost_ret_by (results_ct rfl _ _ w.heap.size 66 _ (0, 0) _ rfl (sg_cell _ _ _) Tryz.underlying66 rfl (by kernel_rfl)) rfl ?_
      exact ⟨by rw [HD.out]; rfl, sg_below _ _ _⟩
  | false =>
  cases h3 : isFig t[i] with
  | true =>
    have HD0 : Hid (SG = numSg t i) := by show _ = _; rw [hd, h1, h2, h3]; rfl
    rw [h1] at HS; rw [h2] at HG; rw [h3] at HF
    have HFJ : Hid (∀ (c : UInt8) (w : World), Calls Tryz.prog 61 #[.int .u8 (c.toNat : Int)] w fun e w' => e = .returned (.bool (isFig c)) ∧ w' = w) := c_fig
    clear hd h1 h2 h3
    go_enter Tryz.func50, Tryz.ntmps50
    go_upto_region 13 with (first | (go_at_call 58; refine (HS _).mono ?_; rintro e w' ⟨rfl, rfl⟩) | (go_at_call 59; refine (HG _).mono ?_; rintro e w' ⟨rfl, rfl⟩) | (go_at_call 61; refine (HF _).mono ?_; rintro e w' ⟨rfl, rfl⟩))
    go_wp2
    go_loopw [10, 11] (fun vj va wr => wr = (w.alloc (.cells #[.int .i64 0, .string ⟨#[]⟩, .int .i64 0, .int .i64 0, .bool false] 66)).alloc (.cells #[.int .i64 6, .string (t.extract i (i + 1)), .int .i64 0, .int .i64 (i : Int), .bool false] 66) ∧ ∃ (j : Nat) (a : Int), i ≤ j ∧ j ≤ t.size ∧ vj = .int .i64 (j : Int) ∧ va = .int .i64 a ∧ 0 ≤ a ∧ a ≤ 99999999999 ∧ Hid (NumAt t i j a)) (fun vj _ _ => t.size - (intOf vj).toNat)
    case atStart => exact ⟨rfl, i, 0, Nat.le_refl _, by omega, rfl, rfl, by omega, by omega, NumAt.start t i⟩
    case round =>
      obtain ⟨rfl, j, a, hij, hj, rfl, rfl, ha0, ha1, HN⟩ := hrel
      clear HF
      by_cases hlt : j < t.size
      · have hcj := t[j].toNat_lt
        have HFF := HFJ.out t[j]
        cases hf : isFig t[j] with
        | true =>
          rw [hf] at HFF
          by_cases hm : a ≤ 999999999
          · have HN' : Hid (NumAt t i (j + 1) (10 * a + (t[j].toNat : Int) - 48)) := HN.out.next hm hij hlt hf
            have hfg : 48 ≤ t[j].toNat ∧ t[j].toNat ≤ 57 := by unfold isFig at hf; exact of_decide_eq_true hf
            clear hf HN HD0
            go_wp2_with (go_at_call 61; refine (HFF _).mono ?_; rintro e w' ⟨rfl, rfl⟩)
            go_roundw
            case rel => exact ⟨trivial, j + 1, _, by omega, by omega, by go_num, rfl, by omega, by omega, HN'⟩
            case measure => simp [intOf]; omega
          · have HD : Hid (SG = badSg t i) := by show _ = _; rw [HD0.out]; exact HN.out.over (by omega)
            clear hf HN HD0
            go_wp2_with (go_at_call 61; refine (HFF _).mono ?_; rintro e w' ⟨rfl, rfl⟩)
            refine bodyPost_ret_by (results_ct rfl _ _ w.heap.size 66 _ (0, 0) _ rfl (sg_cell _ _ _) Tryz.underlying66 rfl (by kernel_rfl)) rfl ?_
            exact ⟨by rw [HD.out]; rfl, sg_below _ _ _⟩
        | false =>
          rw [hf] at HFF
          by_cases hm : a ≤ 999999999
          · have HD : Hid (SG = mkSg t 3 ⟨#[]⟩ a i j) := by show _ = _; rw [HD0.out]; exact HN.out.done hm hij (fun _ => hf)
            clear hf HN HD0
            go_wp2_with (go_at_call 61; refine (HFF _).mono ?_; rintro e w' ⟨rfl, rfl⟩)
            refine bodyPost_ret_by (results_ct rfl _ _ w.heap.size 66 _ (0, 0) _ rfl (sg_cell _ _ _) Tryz.underlying66 rfl (by kernel_rfl)) rfl ?_
            exact ⟨by rw [HD.out]; rfl, sg_below _ _ _⟩
          · have HD : Hid (SG = badSg t i) := by show _ = _; rw [HD0.out]; exact HN.out.over (by omega)
            clear hf HN HD0
            go_wp2_with (go_at_call 61; refine (HFF _).mono ?_; rintro e w' ⟨rfl, rfl⟩)
            refine bodyPost_ret_by (results_ct rfl _ _ w.heap.size 66 _ (0, 0) _ rfl (sg_cell _ _ _) Tryz.underlying66 rfl (by kernel_rfl)) rfl ?_
            exact ⟨by rw [HD.out]; rfl, sg_below _ _ _⟩
      · by_cases hm : a ≤ 999999999
        · have HD : Hid (SG = mkSg t 3 ⟨#[]⟩ a i j) := by show _ = _; rw [HD0.out]; exact HN.out.done hm hij (fun h => absurd h hlt)
          clear HN HD0
          go_wp2
          refine bodyPost_ret_by (results_ct rfl _ _ w.heap.size 66 _ (0, 0) _ rfl (sg_cell _ _ _) Tryz.underlying66 rfl (by kernel_rfl)) rfl ?_
          exact ⟨by rw [HD.out]; rfl, sg_below _ _ _⟩
        · have HD : Hid (SG = badSg t i) := by show _ = _; rw [HD0.out]; exact HN.out.over (by omega)
          clear HN HD0
          go_wp2
          refine bodyPost_ret_by (results_ct rfl _ _ w.heap.size 66 _ (0, 0) _ rfl (sg_cell _ _ _) Tryz.underlying66 rfl (by kernel_rfl)) rfl ?_
          exact ⟨by rw [HD.out]; rfl, sg_below _ _ _⟩
  | false =>
  rw [h1] at HS; rw [h2] at HG; rw [h3] at HF
  by_cases h4 : t[i].toNat = 39
  · have e39 : ((t[i].toNat : Int) == 39) = true := by rw [h4]; rfl
    obtain ⟨Q, hQ⟩ : ∃ Q, Q = i + 1 + run t not39 (i + 1) := ⟨_, rfl⟩
    by_cases hcd : Q < t.size ∧ nameOk (t.extract (i + 1) Q) = true
    · have HQ : Hid (∀ w, Calls Tryz.prog 62 #[.string t, .int .i64 (i : Int)] w fun e w' => e = .returned (.int .i64 ((Q + 1 : Nat) : Int)) ∧ w' = w) := fun w => by
        have := c_quoted t i hi hs w
        rw [show quotR t i = Q + 1 by unfold quotR; rw [← hQ, if_pos hcd]; omega] at this
        exact this
      have HD : Hid (SG = mkSg t 1 (t.extract (i + 1) Q) 0 i (Q + 1)) := by
        show _ = _
        rw [hd, h1, h2, h3, if_pos h4]
        show quotSg t i = _
        unfold quotSg
        rw [← hQ, if_pos hcd, show i + run t not39 (i + 1) + 2 = Q + 1 by omega]
      have hQ1 := hcd.1
      have hQ2 : i + 1 ≤ Q := by omega
      clear hd h1 h2 h3 h4 hcd hQ
      go_enter Tryz.func50, Tryz.ntmps50
      go_wp2_with (first | (go_at_call 58; refine (HS _).mono ?_; rintro e w' ⟨rfl, rfl⟩) | (go_at_call 59; refine (HG _).mono ?_; rintro e w' ⟨rfl, rfl⟩) | (go_at_call 61; refine (HF _).mono ?_; rintro e w' ⟨rfl, rfl⟩) | (go_at_call 62; refine (HQ.out _).mono ?_; rintro e w' ⟨rfl, rfl⟩))
      refine bodyPost_ret_by (results_ct rfl _ _ w.heap.size 66 _ (0, 0) _ rfl (sg_cell _ _ _) Tryz.underlying66 rfl (by kernel_rfl)) rfl ?_
      exact ⟨by rw [HD.out]; rfl, sg_below _ _ _⟩
    · have HQ : Hid (∀ w, Calls Tryz.prog 62 #[.string t, .int .i64 (i : Int)] w fun e w' => e = .returned (.int .i64 0) ∧ w' = w) := fun w => by
        have := c_quoted t i hi hs w
        rw [show quotR t i = 0 by unfold quotR; rw [← hQ, if_neg hcd]] at this
        exact this
      have HD : Hid (SG = badSg t i) := by
        show _ = _
        rw [hd, h1, h2, h3, if_pos h4]
        show quotSg t i = _
        unfold quotSg
        rw [← hQ, if_neg hcd]
      clear hd h1 h2 h3 h4 hcd hQ
      go_enter Tryz.func50, Tryz.ntmps50
      go_wp2_with (first | (go_at_call 58; refine (HS _).mono ?_; rintro e w' ⟨rfl, rfl⟩) | (go_at_call 59; refine (HG _).mono ?_; rintro e w' ⟨rfl, rfl⟩) | (go_at_call 61; refine (HF _).mono ?_; rintro e w' ⟨rfl, rfl⟩) | (go_at_call 62; refine (HQ.out _).mono ?_; rintro e w' ⟨rfl, rfl⟩))
      refine bodyPost_ret_by (results_ct rfl _ _ w.heap.size 66 _ (0, 0) _ rfl (sg_cell _ _ _) Tryz.underlying66 rfl (by kernel_rfl)) rfl ?_
      exact ⟨by rw [HD.out]; rfl, sg_below _ _ _⟩
  · have e39 : ((t[i].toNat : Int) == 39) = false := beq_eq_false_iff_ne.2 (by omega)
    by_cases h5 : isLone t[i] = true
    · have HD : Hid (SG = oneSg t 1 i) := by show _ = _; rw [hd, h1, h2, h3, if_neg h4, h5]; rfl
      unfold isLone at h5
      have h5' := of_decide_eq_true h5
      clear hd h1 h2 h3 h4 h5
      rcases h5' with h | h
      · have f1 : ((t[i].toNat : Int) == 33) = true := by rw [h]; rfl
        clear h
        go_enter Tryz.func50, Tryz.ntmps50
        go_wp2_with (first | (go_at_call 58; refine (HS _).mono ?_; rintro e w' ⟨rfl, rfl⟩) | (go_at_call 59; refine (HG _).mono ?_; rintro e w' ⟨rfl, rfl⟩) | (go_at_call 61; refine (HF _).mono ?_; rintro e w' ⟨rfl, rfl⟩))
        refine bodyPost_ret_by (results_ct rfl _ _ w.heap.size 66 _ (0, 0) _ rfl (sg_cell _ _ _) Tryz.underlying66 rfl (by kernel_rfl)) rfl ?_
        exact ⟨by rw [HD.out]; rfl, sg_below _ _ _⟩
      · have f1 : ((t[i].toNat : Int) == 33) = false := beq_eq_false_iff_ne.2 (by omega)
        have f2 : ((t[i].toNat : Int) == 59) = true := by rw [h]; rfl
        clear h
        go_enter Tryz.func50, Tryz.ntmps50
        go_wp2_with (first | (go_at_call 58; refine (HS _).mono ?_; rintro e w' ⟨rfl, rfl⟩) | (go_at_call 59; refine (HG _).mono ?_; rintro e w' ⟨rfl, rfl⟩) | (go_at_call 61; refine (HF _).mono ?_; rintro e w' ⟨rfl, rfl⟩))
        refine bodyPost_ret_by (results_ct rfl _ _ w.heap.size 66 _ (0, 0) _ rfl (sg_cell _ _ _) Tryz.underlying66 rfl (by kernel_rfl)) rfl ?_
        exact ⟨by rw [HD.out]; rfl, sg_below _ _ _⟩
    have h5' : ¬ (t[i].toNat = 33 ∨ t[i].toNat = 59) := fun h => h5 (by unfold isLone; exact decide_eq_true h)
    have f1 : ((t[i].toNat : Int) == 33) = false := beq_eq_false_iff_ne.2 (by omega)
    have f2 : ((t[i].toNat : Int) == 59) = false := beq_eq_false_iff_ne.2 (by omega)
    have h5f : isLone t[i] = false := by simpa using h5
    by_cases h6 : isMark t[i] = true
    · have HD : Hid (SG = oneSg t 4 i) := by show _ = _; rw [hd, h1, h2, h3, if_neg h4, h5f, h6]; rfl
      unfold isMark at h6
      have h6' := of_decide_eq_true h6
      clear hd h1 h2 h3 h4 h5 h6 h5' h5f
      rcases h6' with h | h | h | h | h | h
      · have g40 : ((t[i].toNat : Int) == 40) = true := by rw [h]; rfl
        clear h
        go_enter Tryz.func50, Tryz.ntmps50
        go_wp2_with (first | (go_at_call 58; refine (HS _).mono ?_; rintro e w' ⟨rfl, rfl⟩) | (go_at_call 59; refine (HG _).mono ?_; rintro e w' ⟨rfl, rfl⟩) | (go_at_call 61; refine (HF _).mono ?_; rintro e w' ⟨rfl, rfl⟩))
        refine bodyPost_ret_by (results_ct rfl _ _ w.heap.size 66 _ (0, 0) _ rfl (sg_cell _ _ _) Tryz.underlying66 rfl (by kernel_rfl)) rfl ?_
        exact ⟨by rw [HD.out]; rfl, sg_below _ _ _⟩
      · have g40 : ((t[i].toNat : Int) == 40) = false := beq_eq_false_iff_ne.2 (by omega)
        have g41 : ((t[i].toNat : Int) == 41) = true := by rw [h]; rfl
        clear h
        go_enter Tryz.func50, Tryz.ntmps50
        go_wp2_with (first | (go_at_call 58; refine (HS _).mono ?_; rintro e w' ⟨rfl, rfl⟩) | (go_at_call 59; refine (HG _).mono ?_; rintro e w' ⟨rfl, rfl⟩) | (go_at_call 61; refine (HF _).mono ?_; rintro e w' ⟨rfl, rfl⟩))
        refine bodyPost_ret_by (results_ct rfl _ _ w.heap.size 66 _ (0, 0) _ rfl (sg_cell _ _ _) Tryz.underlying66 rfl (by kernel_rfl)) rfl ?_
        exact ⟨by rw [HD.out]; rfl, sg_below _ _ _⟩
      · have g40 : ((t[i].toNat : Int) == 40) = false := beq_eq_false_iff_ne.2 (by omega)
        have g41 : ((t[i].toNat : Int) == 41) = false := beq_eq_false_iff_ne.2 (by omega)
        have g91 : ((t[i].toNat : Int) == 91) = true := by rw [h]; rfl
        clear h
        go_enter Tryz.func50, Tryz.ntmps50
        go_wp2_with (first | (go_at_call 58; refine (HS _).mono ?_; rintro e w' ⟨rfl, rfl⟩) | (go_at_call 59; refine (HG _).mono ?_; rintro e w' ⟨rfl, rfl⟩) | (go_at_call 61; refine (HF _).mono ?_; rintro e w' ⟨rfl, rfl⟩))
        refine bodyPost_ret_by (results_ct rfl _ _ w.heap.size 66 _ (0, 0) _ rfl (sg_cell _ _ _) Tryz.underlying66 rfl (by kernel_rfl)) rfl ?_
        exact ⟨by rw [HD.out]; rfl, sg_below _ _ _⟩
      · have g40 : ((t[i].toNat : Int) == 40) = false := beq_eq_false_iff_ne.2 (by omega)
        have g41 : ((t[i].toNat : Int) == 41) = false := beq_eq_false_iff_ne.2 (by omega)
        have g91 : ((t[i].toNat : Int) == 91) = false := beq_eq_false_iff_ne.2 (by omega)
        have g93 : ((t[i].toNat : Int) == 93) = true := by rw [h]; rfl
        clear h
        go_enter Tryz.func50, Tryz.ntmps50
        go_wp2_with (first | (go_at_call 58; refine (HS _).mono ?_; rintro e w' ⟨rfl, rfl⟩) | (go_at_call 59; refine (HG _).mono ?_; rintro e w' ⟨rfl, rfl⟩) | (go_at_call 61; refine (HF _).mono ?_; rintro e w' ⟨rfl, rfl⟩))
        refine bodyPost_ret_by (results_ct rfl _ _ w.heap.size 66 _ (0, 0) _ rfl (sg_cell _ _ _) Tryz.underlying66 rfl (by kernel_rfl)) rfl ?_
        exact ⟨by rw [HD.out]; rfl, sg_below _ _ _⟩
      · have g40 : ((t[i].toNat : Int) == 40) = false := beq_eq_false_iff_ne.2 (by omega)
        have g41 : ((t[i].toNat : Int) == 41) = false := beq_eq_false_iff_ne.2 (by omega)
        have g91 : ((t[i].toNat : Int) == 91) = false := beq_eq_false_iff_ne.2 (by omega)
        have g93 : ((t[i].toNat : Int) == 93) = false := beq_eq_false_iff_ne.2 (by omega)
        have g44 : ((t[i].toNat : Int) == 44) = true := by rw [h]; rfl
        clear h
        go_enter Tryz.func50, Tryz.ntmps50
        go_wp2_with (first | (go_at_call 58; refine (HS _).mono ?_; rintro e w' ⟨rfl, rfl⟩) | (go_at_call 59; refine (HG _).mono ?_; rintro e w' ⟨rfl, rfl⟩) | (go_at_call 61; refine (HF _).mono ?_; rintro e w' ⟨rfl, rfl⟩))
        refine bodyPost_ret_by (results_ct rfl _ _ w.heap.size 66 _ (0, 0) _ rfl (sg_cell _ _ _) Tryz.underlying66 rfl (by kernel_rfl)) rfl ?_
        exact ⟨by rw [HD.out]; rfl, sg_below _ _ _⟩
      · have g40 : ((t[i].toNat : Int) == 40) = false := beq_eq_false_iff_ne.2 (by omega)
        have g41 : ((t[i].toNat : Int) == 41) = false := beq_eq_false_iff_ne.2 (by omega)
        have g91 : ((t[i].toNat : Int) == 91) = false := beq_eq_false_iff_ne.2 (by omega)
        have g93 : ((t[i].toNat : Int) == 93) = false := beq_eq_false_iff_ne.2 (by omega)
        have g44 : ((t[i].toNat : Int) == 44) = false := beq_eq_false_iff_ne.2 (by omega)
        have g124 : ((t[i].toNat : Int) == 124) = true := by rw [h]; rfl
        clear h
        go_enter Tryz.func50, Tryz.ntmps50
        go_wp2_with (first | (go_at_call 58; refine (HS _).mono ?_; rintro e w' ⟨rfl, rfl⟩) | (go_at_call 59; refine (HG _).mono ?_; rintro e w' ⟨rfl, rfl⟩) | (go_at_call 61; refine (HF _).mono ?_; rintro e w' ⟨rfl, rfl⟩))
        refine bodyPost_ret_by (results_ct rfl _ _ w.heap.size 66 _ (0, 0) _ rfl (sg_cell _ _ _) Tryz.underlying66 rfl (by kernel_rfl)) rfl ?_
        exact ⟨by rw [HD.out]; rfl, sg_below _ _ _⟩
    have h6' : ¬ (t[i].toNat = 40 ∨ t[i].toNat = 41 ∨ t[i].toNat = 91 ∨ t[i].toNat = 93 ∨ t[i].toNat = 44 ∨ t[i].toNat = 124) := fun h => h6 (by unfold isMark; exact decide_eq_true h)
    have g40 : ((t[i].toNat : Int) == 40) = false := beq_eq_false_iff_ne.2 (by omega)
    have g41 : ((t[i].toNat : Int) == 41) = false := beq_eq_false_iff_ne.2 (by omega)
    have g91 : ((t[i].toNat : Int) == 91) = false := beq_eq_false_iff_ne.2 (by omega)
    have g93 : ((t[i].toNat : Int) == 93) = false := beq_eq_false_iff_ne.2 (by omega)
    have g44 : ((t[i].toNat : Int) == 44) = false := beq_eq_false_iff_ne.2 (by omega)
    have g124 : ((t[i].toNat : Int) == 124) = false := beq_eq_false_iff_ne.2 (by omega)
    have h6f : isMark t[i] = false := by simpa using h6
    by_cases h7 : isEnd t i = true
    · have HD : Hid (SG = oneSg t 5 i) := by show _ = _; rw [hd, h1, h2, h3, if_neg h4, h5f, h6f, h7]; rfl
      rw [h7] at HE
      clear hd h1 h2 h3 h4 h5 h6 h7 h5' h6' h5f h6f
      go_enter Tryz.func50, Tryz.ntmps50
      go_wp2_with (first | (go_at_call 58; refine (HS _).mono ?_; rintro e w' ⟨rfl, rfl⟩) | (go_at_call 59; refine (HG _).mono ?_; rintro e w' ⟨rfl, rfl⟩) | (go_at_call 61; refine (HF _).mono ?_; rintro e w' ⟨rfl, rfl⟩) | (go_at_call 63; refine (HE _).mono ?_; rintro e w' ⟨rfl, rfl⟩))
      refine bodyPost_ret_by (results_ct rfl _ _ w.heap.size 66 _ (0, 0) _ rfl (sg_cell _ _ _) Tryz.underlying66 rfl (by kernel_rfl)) rfl ?_
      exact ⟨by rw [HD.out]; rfl, sg_below _ _ _⟩
    have h7f : isEnd t i = false := by simpa using h7
    rw [h7f] at HE
    by_cases h8 : isSym t[i] = true
    · have HD0 : Hid (SG = nameSg t 1 isSym i) := by show _ = _; rw [hd, h1, h2, h3, if_neg h4, h5f, h6f, h7f, h8]; rfl
      rw [h8] at HY
      have HYJ : Hid (∀ (c : UInt8) (w : World), Calls Tryz.prog 64 #[.int .u8 (c.toNat : Int)] w fun e w' => e = .returned (.bool (isSym c)) ∧ w' = w) := spec_sym
      obtain ⟨N, hN⟩ : ∃ N, N = i + run t isSym i := ⟨_, rfl⟩
      have HNN : Hid (i + run t isSym i = N) := hN.symm
      have hNl : N ≤ t.size := by have := run_le t isSym i; omega
      have hiN : i ≤ N := by omega
      clear hd h1 h2 h3 h4 h5 h6 h7 h8 h5' h6' h5f h6f h7f hN
      go_enter Tryz.func50, Tryz.ntmps50
      go_upto_region 32 with (first | (go_at_call 58; refine (HS _).mono ?_; rintro e w' ⟨rfl, rfl⟩) | (go_at_call 59; refine (HG _).mono ?_; rintro e w' ⟨rfl, rfl⟩) | (go_at_call 61; refine (HF _).mono ?_; rintro e w' ⟨rfl, rfl⟩) | (go_at_call 63; refine (HE _).mono ?_; rintro e w' ⟨rfl, rfl⟩) | (go_at_call 64; refine (HY _).mono ?_; rintro e w' ⟨rfl, rfl⟩))
      clear HY
      go_wp2
      go_loopw [13] (fun vj wr => wr = (w.alloc (.cells #[.int .i64 0, .string ⟨#[]⟩, .int .i64 0, .int .i64 0, .bool false] 66)).alloc (.cells #[.int .i64 6, .string (t.extract i (i + 1)), .int .i64 0, .int .i64 (i : Int), .bool false] 66) ∧ ∃ j : Nat, i ≤ j ∧ j ≤ t.size ∧ vj = .int .i64 (j : Int) ∧ Hid (j + run t isSym j = N)) (fun vj _ => t.size - (intOf vj).toNat)
      case atStart => exact ⟨rfl, i, Nat.le_refl _, by omega, rfl, HNN⟩
      case round =>
        obtain ⟨rfl, j, hij, hj, rfl, HJ⟩ := hrel
        by_cases hlt : j < t.size
        · have hcj := t[j].toNat_lt
          have HYY := HYJ.out t[j]
          cases hf : isSym t[j] with
          | true =>
            rw [hf] at HYY
            have HJ' : Hid (j + 1 + run t isSym (j + 1) = N) := by have := HJ.out; rw [run_yes hlt hf] at this; show _ = _; omega
            clear hf HJ
            go_wp2_with (go_at_call 64; refine (HYY _).mono ?_; rintro e w' ⟨rfl, rfl⟩)
            go_roundw
            case rel => exact ⟨trivial, j + 1, by omega, by omega, by go_num, HJ'⟩
            case measure => simp [intOf]; omega
          | false =>
            rw [hf] at HYY
            obtain rfl : j = N := by have := HJ.out; rw [run_no hlt hf] at this; omega
            by_cases h20 : (j : Int) - (i : Int) ≤ 20
            · have HD : Hid (SG = mkSg t 1 (t.extract i j) 0 i j) := by show _ = _; rw [HD0.out]; unfold nameSg; rw [if_pos (by have := HNN.out; omega), HNN.out]
              clear hf HJ HD0 HNN
              go_wp2_with (go_at_call 64; refine (HYY _).mono ?_; rintro e w' ⟨rfl, rfl⟩)
              refine bodyPost_ret_by (results_ct rfl _ _ w.heap.size 66 _ (0, 0) _ rfl (sg_cell _ _ _) Tryz.underlying66 rfl (by kernel_rfl)) rfl ?_
              exact ⟨by rw [HD.out]; rfl, sg_below _ _ _⟩
            · have HD : Hid (SG = badSg t i) := by show _ = _; rw [HD0.out]; unfold nameSg; rw [if_neg (by have := HNN.out; omega)]
              clear hf HJ HD0 HNN
              go_wp2_with (go_at_call 64; refine (HYY _).mono ?_; rintro e w' ⟨rfl, rfl⟩)
              refine bodyPost_ret_by (results_ct rfl _ _ w.heap.size 66 _ (0, 0) _ rfl (sg_cell _ _ _) Tryz.underlying66 rfl (by kernel_rfl)) rfl ?_
              exact ⟨by rw [HD.out]; rfl, sg_below _ _ _⟩
        · obtain rfl : j = N := by have := HJ.out; rw [run_end hlt] at this; omega
          by_cases h20 : (j : Int) - (i : Int) ≤ 20
          · have HD : Hid (SG = mkSg t 1 (t.extract i j) 0 i j) := by show _ = _; rw [HD0.out]; unfold nameSg; rw [if_pos (by have := HNN.out; omega), HNN.out]
            clear HJ HD0 HNN
            go_wp2
            refine bodyPost_ret_by (results_ct rfl _ _ w.heap.size 66 _ (0, 0) _ rfl (sg_cell _ _ _) Tryz.underlying66 rfl (by kernel_rfl)) rfl ?_
            exact ⟨by rw [HD.out]; rfl, sg_below _ _ _⟩
          · have HD : Hid (SG = badSg t i) := by show _ = _; rw [HD0.out]; unfold nameSg; rw [if_neg (by have := HNN.out; omega)]
            clear HJ HD0 HNN
            go_wp2
            refine bodyPost_ret_by (results_ct rfl _ _ w.heap.size 66 _ (0, 0) _ rfl (sg_cell _ _ _) Tryz.underlying66 rfl (by kernel_rfl)) rfl ?_
            exact ⟨by rw [HD.out]; rfl, sg_below _ _ _⟩
    have h8f : isSym t[i] = false := by simpa using h8
    rw [h8f] at HY
    have HD : Hid (SG = badSg t i) := by show _ = _; rw [hd, h1, h2, h3, if_neg h4, h5f, h6f, h7f, h8f]; rfl
    clear hd h1 h2 h3 h4 h5 h6 h7 h8 h5' h6' h5f h6f h7f h8f
    go_enter Tryz.func50, Tryz.ntmps50
    go_wp2_with (first | (go_at_call 58; refine (HS _).mono ?_; rintro e w' ⟨rfl, rfl⟩) | (go_at_call 59; refine (HG _).mono ?_; rintro e w' ⟨rfl, rfl⟩) | (go_at_call 61; refine (HF _).mono ?_; rintro e w' ⟨rfl, rfl⟩) | (go_at_call 63; refine (HE _).mono ?_; rintro e w' ⟨rfl, rfl⟩) | (go_at_call 64; refine (HY _).mono ?_; rintro e w' ⟨rfl, rfl⟩))
    refine bodyPost_ret_by (results_ct rfl _ _ w.heap.size 66 _ (0, 0) _ rfl (sg_cell _ _ _) Tryz.underlying66 rfl (by kernel_rfl)) rfl ?_
    exact ⟨by rw [HD.out]; rfl, sg_below _ _ _⟩
end Go.Proofs.YtenmhpalpfppmaoGreatDoor

/- Rows of signs in blocks of their own. -/
namespace Go.Proofs.YtenmhpalpfppmaoGreatDoor
open Go.RowKit

def sgCells (s : Sg) : List Value := [.int .i64 s.kind, .string s.text, .int .i64 s.num, .int .i64 (s.at_ : Int), .bool s.near]
def sgsV (L : List Sg) : List Value := L.flatMap sgCells
theorem sgsV_push (L : List Sg) (s : Sg) : sgsV (L ++ [s]) = sgsV L ++ sgCells s := by simp [sgsV]
theorem sgsV_len (L : List Sg) : (sgsV L).length = L.length * 5 := by
  induction L with
  | nil => rfl
  | cons s r ih =>
    have : sgsV (s :: r) = sgCells s ++ sgsV r := by simp [sgsV]
    rw [this, List.length_append, ih, List.length_cons]
    simp [sgCells]; omega
theorem sgsV_at (L : List Sg) (j k : Nat) (hj : j < L.length) (hk : k < 5) : (sgsV L)[j * 5 + k]? = (sgCells L[j])[k]? := by
  induction L generalizing j with
  | nil => simp at hj
  | cons s r ih =>
    have e : sgsV (s :: r) = sgCells s ++ sgsV r := by simp [sgsV]
    rw [e]
    have hl : (sgCells s).length = 5 := rfl
    cases j with
    | zero => rw [List.getElem?_append_left (by omega)]; simp
    | succ j =>
      rw [List.getElem?_append_right (by omega), hl, show (j + 1) * 5 + k - 5 = j * 5 + k by omega, ih j (by simpa using hj)]
      rfl

theorem infoS : (Tryz.prog.info? 66).map (fun i => (i.zero, i.size, i.bytes)) = some (some (.agg #[.int .i64 0, .string ⟨#[]⟩, .int .i64 0, .int .i64 0, .bool false]), 5, 48) := by kernel_rfl
theorem info_partsS {P : Program} {e : TypeId} {z : Value} {s b : Nat} (h : (P.info? e).map (fun i => (i.zero, i.size, i.bytes)) = some (some z, s, b)) : ∃ i, P.info? e = some i ∧ i.zero = some z ∧ i.size = s ∧ i.bytes = b := by
  cases h' : P.info? e with
  | none => rw [h'] at h; cases h
  | some i => rw [h'] at h; simp at h; exact ⟨i, rfl, h.1, h.2.1, h.2.2⟩

/-- a row of signs in a block of its own, above B -/
def SgRow (w : World) (B : Nat) (L : List Sg) (v : Value) : Prop := w.ownsRow B 66 5 v L.length (sgsV L)
theorem SgRow.shape {w : World} {B : Nat} {L : List Sg} {v : Value} (h : SgRow w B L v) : ∃ ao cap, v = .slice ao L.length cap ∧ cap ≤ maxLen ∧ L.length ≤ cap := by
  rcases h.2 with ⟨rfl, h0⟩ | ⟨g, cap, cur, rfl, hb, hh, h1, h2, h3, h4⟩
  · exact ⟨none, 0, by rw [h0], Nat.zero_le _, by omega⟩
  · exact ⟨_, cap, rfl, h2, h1⟩
theorem SgRow.keep {w w' : World} {B : Nat} {L : List Sg} {v : Value} (h : SgRow w B L v) (hb : Below w.heap.size w w') : SgRow w' B L v := by
  refine ⟨h.1, ?_⟩
  rcases h.2 with hn | ⟨g, cap, cur, e, h1, h2, h3⟩
  · exact Or.inl hn
  · exact Or.inr ⟨g, cap, cur, e, h1, (hb.block g (Array.getElem?_eq_some_iff.1 h2).1).trans h2, h3⟩
theorem SgRow.turn {w w' : World} {B : Nat} {L : List Sg} {v : Value} (h : SgRow w B L v) (hb : ∀ b, v.ownBlock = some b → w'.heap[b]? = w.heap[b]?) : SgRow w' B L v := by
  refine ⟨h.1, ?_⟩
  rcases h.2 with hn | ⟨g, cap, cur, e, h1, h2, h3⟩
  · exact Or.inl hn
  · exact Or.inr ⟨g, cap, cur, e, h1, (hb g (by rw [e]; rfl)).trans h2, h3⟩
theorem SgRow.nil (w : World) (B : Nat) : SgRow w B [] (.slice none 0 0) := ⟨by simp [sgsV], Or.inl ⟨rfl, rfl⟩⟩
theorem SgRow.new {w : World} {B : Nat} (hB : B ≤ w.heap.size) : SgRow (w.alloc (.cells #[] 66)) B [] (.slice (some ⟨w.heap.size, 0, none⟩) 0 0) :=
  ⟨by simp [sgsV], Or.inr ⟨w.heap.size, 0, #[], rfl, hB, heap_alloc_new w _, Nat.zero_le _, Nat.zero_le _, by simp, by simp [sgsV]⟩⟩
/-- what stands in it -/
theorem SgRow.cells {w : World} {B : Nat} {L : List Sg} {v : Value} (h : SgRow w B L v) (hL : L ≠ []) : ∃ g cap, v = .slice (some ⟨g, 0, none⟩) L.length cap ∧ B ≤ g ∧ g < w.heap.size ∧ L.length ≤ cap ∧ cap ≤ maxLen ∧
    ∀ j (hj : j < L.length), w.cell? ⟨g, j * 5, none⟩ = some (.int .i64 L[j].kind) ∧ w.cell? ⟨g, j * 5 + 1, none⟩ = some (.string L[j].text) ∧ w.cell? ⟨g, j * 5 + 2, none⟩ = some (.int .i64 L[j].num) ∧ w.cell? ⟨g, j * 5 + 3, none⟩ = some (.int .i64 (L[j].at_ : Int)) ∧ w.cell? ⟨g, j * 5 + 4, none⟩ = some (.bool L[j].near) := by
  rcases h.2 with ⟨rfl, h0⟩ | ⟨g, cap, cur, rfl, hb, hh, h1, h2, h3, h4⟩
  · exact absurd (List.length_eq_zero_iff.1 h0) hL
  · refine ⟨g, cap, rfl, hb, (Array.getElem?_eq_some_iff.1 hh).1, h1, h2, fun j hj => ?_⟩
    have hc : ∀ k, k < 5 → w.cell? ⟨g, j * 5 + k, none⟩ = (sgCells L[j])[k]? := fun k hk => by
      have := h.cellAt (j * 5 + k) (by omega)
      rw [this, sgsV_at L j k hj hk]
    refine ⟨hc 0 (by omega), hc 1 (by omega), hc 2 (by omega), hc 3 (by omega), hc 4 (by omega)⟩
end Go.Proofs.YtenmhpalpfppmaoGreatDoor

/- spec.SignsOf. -/
namespace Go.Proofs.YtenmhpalpfppmaoGreatDoor
open Go.RowKit

theorem mkSg_near (t : ByteArray) (k : Int) (x : ByteArray) (n : Int) (i e : Nat) : (mkSg t k x n i e).1.near = (decide ((mkSg t k x n i e).2 < t.size) && decide ((at8 t (mkSg t k x n i e).2).toNat = 40)) ∧ (mkSg t k x n i e).1.at_ = i := ⟨rfl, rfl⟩
theorem signAt_near (t : ByteArray) (i : Nat) : (signAt t i).1.near = (decide ((signAt t i).2 < t.size) && decide ((at8 t (signAt t i).2).toNat = 40)) ∧ (signAt t i).1.at_ = i := by
  unfold signAt nameSg numSg quotSg oneSg badSg
  repeat' split
  all_goals exact mkSg_near _ _ _ _ _ _

/-- what is told so far and what is left -/
def SoFar (t : ByteArray) (L : List Sg) (j : Nat) : Prop := L ++ sgs t j = sgs t 0 ∧ L.length ≤ j
theorem SoFar.blank {t : ByteArray} {L : List Sg} {j : Nat} (h : SoFar t L j) (hj : j < t.size) (hb : isBlank t[j] = true) : SoFar t L (j + 1) := by
  refine ⟨?_, by have := h.2; omega⟩
  rw [← h.1, sgs_step hj]
  unfold stepAt
  rw [at8_eq t j hj, if_pos hb]; rfl
theorem SoFar.remark {t : ByteArray} {L : List Sg} {j : Nat} (h : SoFar t L j) (hj : j < t.size) (hb : isBlank t[j] = false) (h37 : t[j].toNat = 37) : SoFar t L (j + run t not10 j) := by
  refine ⟨?_, by have := h.2; omega⟩
  rw [← h.1, sgs_step hj]
  unfold stepAt
  rw [at8_eq t j hj, hb, if_pos h37]; rfl
theorem SoFar.sign {t : ByteArray} {L : List Sg} {j : Nat} (h : SoFar t L j) (hj : j < t.size) (hb : isBlank t[j] = false) (h37 : t[j].toNat ≠ 37) : SoFar t (L ++ [(signAt t j).1]) (signAt t j).2 := by
  have he := signAt_end hj
  refine ⟨?_, by have := h.2; simp; omega⟩
  rw [← h.1, sgs_step hj]
  unfold stepAt
  rw [at8_eq t j hj, hb, if_neg h37]; simp

set_option maxHeartbeats 4000000 in
set_option maxRecDepth 20000 in
theorem spec_signs (t : ByteArray) (hs : (t.size : Int) ≤ 3000) (w : World) :
    Calls Tryz.prog 33 #[.string t] w fun e w' => ∃ v, e = .returned (.tuple #[v, .bool true]) ∧ SgRow w' w.heap.size (sgs t 0) v ∧ Below w.heap.size w w' := by
  obtain ⟨i0, hi, hz0, hz1, hz2⟩ := info_partsS infoS
  obtain ⟨ALL, hALL⟩ : ∃ ALL, ALL = sgs t 0 := ⟨_, rfl⟩
  rw [← hALL]
  have HA : Hid (ALL = sgs t 0) := hALL
  clear hALL
  go_enter Tryz.func33, Tryz.ntmps33
  go_wp2
  go_loopw [4, 5] (fun vo va wr => ∃ (j : Nat) (L : List Sg) (v : Value), j ≤ t.size ∧ va = .int .i64 (j : Int) ∧ v = vo ∧ Hid (Below w.heap.size w wr) ∧ Hid (SgRow wr w.heap.size L v) ∧ Hid (SoFar t L j)) (fun _ va _ => t.size - (intOf va).toNat)
  case atStart =>
    exact ⟨0, [], _, by omega, rfl, rfl, (Below.refl _ _).alloc (Nat.le_refl _) _, SgRow.new (Nat.le_refl _), ⟨rfl, Nat.le_refl _⟩⟩
  case round =>
    obtain ⟨j, L, v, hj, rfl, rfl, HB, HO, HSF⟩ := hrel
    by_cases hlt : j < t.size
    · have hc := t[j].toNat_lt
      have HBL := c_blank t[j]
      cases hbl : isBlank t[j] with
      | true =>
        have HS' : Hid (SoFar t L (j + 1)) := HSF.out.blank hlt hbl
        rw [hbl] at HBL
        clear hbl HSF
        go_wp2_with (go_at_call 49; refine (HBL _).mono ?_; rintro e w' ⟨rfl, hw'⟩; subst hw')
        go_roundw
        case rel => exact ⟨j + 1, L, _, by omega, by go_num, rfl, HB, HO, HS'⟩
        case measure => simp [intOf]; omega
      | false =>
        rw [hbl] at HBL
        by_cases h37 : t[j].toNat = 37
        · have e37 : ((t[j].toNat : Int) == 37) = true := by rw [h37]; rfl
          have HS' : Hid (SoFar t L (j + run t not10 j)) := HSF.out.remark hlt hbl h37
          have hp : not10 t[j] = true := by unfold not10; rw [h37]; rfl
          obtain ⟨E, hE⟩ : ∃ E, E = j + run t not10 j := ⟨_, rfl⟩
          have hjE : j < E := by rw [hE, run_yes hlt hp]; omega
          have hEl : E ≤ t.size := by have := run_le t not10 j; omega
          rw [← hE] at HS'
          have HE : Hid (j + run t not10 j = E) := hE.symm
          clear hbl HSF hE hp h37
          go_wp2_with (go_at_call 49; refine (HBL _).mono ?_; rintro e w' ⟨rfl, hw'⟩; subst hw')
          go_loopw [5] (fun va wq => Hid (wq = w') ∧ ∃ k : Nat, j ≤ k ∧ k ≤ t.size ∧ va = .int .i64 (k : Int) ∧ Hid (k + run t not10 k = E)) (fun va _ => t.size - (intOf va).toNat)
          case atStart => exact ⟨rfl, j, Nat.le_refl _, by omega, rfl, HE⟩
          case round =>
            obtain ⟨hwq, k, hjk, hk, rfl, HK⟩ := hrel
            replace hwq := hwq.out
            subst hwq
            by_cases hkl : k < t.size
            · have hck := t[k].toNat_lt
              by_cases h10 : t[k].toNat = 10
              · have hn : not10 t[k] = false := by unfold not10; rw [h10]; rfl
                have e10 : ((t[k].toNat : Int) != 10) = false := by rw [h10]; rfl
                obtain rfl : k = E := by have := HK.out; rw [run_no hkl hn] at this; omega
                clear hn HK HE h10
                go_wp2
                go_roundw
                case rel => exact ⟨k, L, _, by omega, rfl, rfl, HB, HO, HS'⟩
                case measure => simp [intOf]; omega
              · have hn : not10 t[k] = true := by unfold not10; simp [h10]
                have e10 : ((t[k].toNat : Int) != 10) = true := by simp; omega
                have HK' : Hid (k + 1 + run t not10 (k + 1) = E) := by have := HK.out; rw [run_yes hkl hn] at this; show _ = _; omega
                clear hn HK HE h10
                go_wp2
                go_roundw
                case rel => exact ⟨trivial, k + 1, by omega, by omega, by go_num, HK'⟩
                case measure => simp [intOf]; omega
            · obtain rfl : k = E := by have := HK.out; rw [run_end hkl] at this; omega
              clear HK HE
              go_wp2
              go_roundw
              case rel => exact ⟨k, L, _, by omega, rfl, rfl, HB, HO, HS'⟩
              case measure => simp [intOf]; omega
        · have e37 : ((t[j].toNat : Int) == 37) = false := beq_eq_false_iff_ne.2 (by omega)
          have HS' : Hid (SoFar t (L ++ [(signAt t j).1]) (signAt t j).2) := HSF.out.sign hlt hbl h37
          have HSG := c_sign t j hlt hs
          have hne := signAt_near t j
          have hend := signAt_end hlt
          have hL : L.length ≤ 3000 := by have := HSF.out.2; omega
          generalize signAt t j = SG at *
          obtain ⟨⟨k1, x1, n1, a1, near1⟩, E⟩ := SG
          simp only at hne hend HS'
          have hn1 := hne.1
          have ha1 := hne.2.symm
          subst ha1
          clear hne
          obtain ⟨ao, cp, rfl, hcp, hLc⟩ := HO.out.shape
          clear hbl HSF h37
          have hE1 := hend.1
          have hE2 := hend.2
          by_cases hEl : E < t.size
          · have hcE := t[E].toNat_lt
            have hn2 : near1 = decide (t[E].toNat = 40) := by rw [hn1, at8_eq t E hEl, decide_eq_true hEl]; rfl
            have e40 : ((t[E].toNat : Int) == 40) = near1 := by rw [hn2, Bool.eq_iff_iff]; simp; omega
            clear hn1 hn2 hend
            go_wp2_with (first
              | (go_at_call 49; refine (HBL _).mono ?_; rintro e w' ⟨rfl, hw'⟩; subst hw')
              | (go_at_call 50; refine (HSG _).mono ?_; rintro e w1 ⟨rfl, hb1⟩; have HB1 : Hid (Below w'.heap.size w' w1) := hb1; simp only [sgv]; clear hb1; have HO1 : Hid (SgRow w1 w.heap.size L (.slice ao L.length cp)) := HO.out.keep HB1.out)
              | (at_builtin; go_loud (refine wpList_append_own_at _ rfl _ _ 62 rfl w.heap.size 66 i0 (.agg #[.int .i64 0, .string ⟨#[]⟩, .int .i64 0, .int .i64 0, .bool false]) 5 48 Tryz.underlying62 hi hz0 hz1 hz2 rfl (by decide) _ _ _ rfl ((HO1.out.alloc _).alloc _) ⟨w1.heap.size + 1, 0, none⟩ 1 1 [.int .i64 k1, .string x1, .int .i64 n1, .int .i64 (j : Int), .bool near1] rfl rfl ?c1 ?c2 ?c3 ?c4 ?c5 ?_)))
            case c1 =>
              intro q z hq
              match q, hq with
              | 0, hq => simp at hq; subst hq; simp [Addr.add]
              | 1, hq => simp at hq; subst hq; simp [Addr.add]
              | 2, hq => simp at hq; subst hq; simp [Addr.add]
              | 3, hq => simp at hq; subst hq; simp [Addr.add]
              | 4, hq => simp at hq; subst hq; simp [Addr.add]
            case c2 => intro z hz; simp at hz; rcases hz with rfl | rfl | rfl | rfl | rfl <;> rfl
            case c3 => unfold maxLen; omega
            case c4 => omega
            case c5 => have := HB.out.size; have := HB1.out.size; simp; omega
            intro v' w2 hown' hgrow _ _
            have HO2 : Hid (SgRow w2 w.heap.size (L ++ [⟨k1, x1, n1, j, near1⟩]) v') := by
              show w2.ownsRow w.heap.size 66 5 v' (L ++ [_]).length (sgsV (L ++ [_]))
              rw [sgsV_push, List.length_append]
              exact hown'
            have HB2 : Hid (Below w.heap.size w w2) := by
              have b1 : Below w.heap.size w w1 := HB.out.trans (HB1.out.mono HB.out.size)
              have b2 := (b1.alloc b1.size (.cells #[.int .i64 k1, .string x1, .int .i64 n1, .int .i64 (j : Int), .bool near1] 66)).alloc (by have := b1.size; simp; omega) (.cells #[.int .i64 k1, .string x1, .int .i64 n1, .int .i64 (j : Int), .bool near1] 66)
              refine b2.grown hgrow (by have := b1.size; simp; omega) ?_
              intro kk hkk
              rcases HO1.out.2 with ⟨e, _⟩ | ⟨g, cap, cur, e, hge, _⟩
              · rw [e] at hkk; cases hkk
              · rw [e] at hkk; cases hkk; exact hge
            clear hown' hgrow HO1 HO HB HB1
            go_wp2
            go_roundw
            case rel => exact ⟨E, _, _, by omega, rfl, rfl, HB2, HO2, HS'⟩
            case measure => simp [intOf]; omega
          · have hn2 : near1 = false := by rw [hn1, decide_eq_false hEl]; rfl
            subst hn2
            clear hn1 hend
            go_wp2_with (first
              | (go_at_call 49; refine (HBL _).mono ?_; rintro e w' ⟨rfl, hw'⟩; subst hw')
              | (go_at_call 50; refine (HSG _).mono ?_; rintro e w1 ⟨rfl, hb1⟩; have HB1 : Hid (Below w'.heap.size w' w1) := hb1; simp only [sgv]; clear hb1; have HO1 : Hid (SgRow w1 w.heap.size L (.slice ao L.length cp)) := HO.out.keep HB1.out)
              | (at_builtin; go_loud (refine wpList_append_own_at _ rfl _ _ 62 rfl w.heap.size 66 i0 (.agg #[.int .i64 0, .string ⟨#[]⟩, .int .i64 0, .int .i64 0, .bool false]) 5 48 Tryz.underlying62 hi hz0 hz1 hz2 rfl (by decide) _ _ _ rfl ((HO1.out.alloc _).alloc _) ⟨w1.heap.size + 1, 0, none⟩ 1 1 [.int .i64 k1, .string x1, .int .i64 n1, .int .i64 (j : Int), .bool false] rfl rfl ?c1 ?c2 ?c3 ?c4 ?c5 ?_)))
            case c1 =>
              intro q z hq
              match q, hq with
              | 0, hq => simp at hq; subst hq; simp [Addr.add]
              | 1, hq => simp at hq; subst hq; simp [Addr.add]
              | 2, hq => simp at hq; subst hq; simp [Addr.add]
              | 3, hq => simp at hq; subst hq; simp [Addr.add]
              | 4, hq => simp at hq; subst hq; simp [Addr.add]
            case c2 => intro z hz; simp at hz; rcases hz with rfl | rfl | rfl | rfl | rfl <;> rfl
            case c3 => unfold maxLen; omega
            case c4 => omega
            case c5 => have := HB.out.size; have := HB1.out.size; simp; omega
            intro v' w2 hown' hgrow _ _
            have HO2 : Hid (SgRow w2 w.heap.size (L ++ [⟨k1, x1, n1, j, false⟩]) v') := by
              show w2.ownsRow w.heap.size 66 5 v' (L ++ [_]).length (sgsV (L ++ [_]))
              rw [sgsV_push, List.length_append]
              exact hown'
            have HB2 : Hid (Below w.heap.size w w2) := by
              have b1 : Below w.heap.size w w1 := HB.out.trans (HB1.out.mono HB.out.size)
              have b2 := (b1.alloc b1.size (.cells #[.int .i64 k1, .string x1, .int .i64 n1, .int .i64 (j : Int), .bool false] 66)).alloc (by have := b1.size; simp; omega) (.cells #[.int .i64 k1, .string x1, .int .i64 n1, .int .i64 (j : Int), .bool false] 66)
              refine b2.grown hgrow (by have := b1.size; simp; omega) ?_
              intro kk hkk
              rcases HO1.out.2 with ⟨e, _⟩ | ⟨g, cap, cur, e, hge, _⟩
              · rw [e] at hkk; cases hkk
              · rw [e] at hkk; cases hkk; exact hge
            clear hown' hgrow HO1 HO HB HB1
            go_wp2
            go_roundw
            case rel => exact ⟨E, _, _, by omega, rfl, rfl, HB2, HO2, HS'⟩
            case measure => simp [intOf]; omega
    · obtain rfl : j = t.size := by omega
      have hL : L = ALL := by have := HSF.out.1; rw [sgs_end hlt, List.append_nil] at this; rw [this, ← HA.out]
      subst hL
      clear HSF
      obtain ⟨ao, cp, rfl, _, _⟩ := HO.out.shape
      go_wp2
      go_ret2
      exact ⟨_, rfl, HO.out, HB.out⟩
end Go.Proofs.YtenmhpalpfppmaoGreatDoor
