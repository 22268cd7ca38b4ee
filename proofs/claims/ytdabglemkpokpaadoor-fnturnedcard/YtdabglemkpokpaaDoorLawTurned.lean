/- FnTurned answers true at every code, the table being as the program's text lays it. No other condition. -/
import Derived.Test.YtdabglemkpokpaaDoorTurnA
import Derived.Test.YtdabglemkpokpaaDoorCurT
import Derived.Test.YtdabglemkpokpaaDoorCodeRow
import Derived.ChangeOld
import Derived.Below
namespace Go.Proofs.YtdabglemkpokpaaDoor.fnTurned
open Go.ChangeShapes Go.WideShapes Go.ChangeAt Go.RowKit

theorem owns_keep {w w' : World} {B e size n : Nat} {v : Value} {xs : List Value} (h : w.ownsRow B e size v n xs) (hb : Below w.heap.size w w') : w'.ownsRow B e size v n xs := by
  refine ⟨h.1, ?_⟩
  rcases h.2 with h | ⟨g, cap, cur, h1, h2, h3, h4⟩
  · exact Or.inl h
  · exact Or.inr ⟨g, cap, cur, h1, h2, (hb.block g (Array.getElem?_eq_some_iff.1 h3).1).trans h3, h4⟩

theorem conv_bytes (t : ByteArray) (w : World) : ∃ (cap : Nat) (w5 : World), (convert 9 22 (.string t)).run Tryd.prog w = .ok (.slice (some ⟨w.heap.size, 0, none⟩) t.size cap) w5 ∧ Below w.heap.size w w5 ∧
    w.heap.size < w5.heap.size ∧ (∀ j (h : j < t.data.toList.length), w5.cell? ⟨w.heap.size, j, none⟩ = some (.int .u8 (t.data.toList[j].toNat : Int))) ∧ (∀ j, j < t.data.toList.length → w5.frozen? ⟨w.heap.size, j, none⟩ = false) := by
  refine ⟨_, _, run_bytes_of_string w 9 22 5 t Tryd.underlying9 Tryd.underlying22 Tryd.underlying5, ?_, ?_, ?_, ?_⟩
  · exact ((Below.refl _ _).drew).alloc (Nat.le_refl _) _
  · show w.heap.size < (w.heap.push _).size
    simp
  · intro j hj
    unfold World.cell?
    rw [show w.heap.size = w.drew.heap.size from rfl, heap_alloc_new]
    simp only [Option.isSome_none, Bool.false_eq_true, if_false]
    rw [bytesRow_at t _ j (by simpa using hj)]
    simp
  · intro j hj
    unfold World.frozen?
    rw [show w.heap.size = w.drew.heap.size from rfl, heap_alloc_new]
    simp only [bytesRow, Array.size_append, Array.size_map, Array.size_replicate]
    have : j < t.data.size := by simpa using hj
    simp only [Bool.and_eq_false_iff, decide_eq_false_iff_not]
    left
    omega

/-- .. a code of bytes, at most 2^20 of them -/
theorem walk (v : Value) (n : Nat) (w : World) (hv : CodeIn w.heap.size w v n) (ht : Tab w) :
    Calls Tryd.prog 4 #[v] w fun e w' => e = .returned (.bool true) ∧ Below w.heap.size w w' := by
  have HT : Hid (∀ w', Below w.heap.size w w' → Tab w') := fun w' hb => ht.below hb (lt_of_tab ht)
  have HK : Hid (∀ w', Below w.heap.size w w' → CodeIn w.heap.size w' v n) := fun w' hb => hv.below hb (Nat.le_refl _)
  obtain ⟨ao, cap, rfl, hn, hrest⟩ := hv
  clear ht hrest
  go_enter Tryd.func4, Tryd.ntmps4
  go_wp2_with (first
    | (go_at_call 5; refine (big_no _ _ _ hn _).mono ?_; rintro e w0 ⟨rfl, rfl⟩; have HB : Hid (Below w0.heap.size w0 w0) := Below.refl _ _)
    | (go_at_call 16; refine (drawSum_any _ _ _ n (HK.out _ HB.out) HB.out.size).mono ?_; rintro e w1 ⟨⟨s, hs, rfl⟩, hb1⟩; replace HB : Hid (Below w0.heap.size w0 w1) := HB.out.trans (hb1.mono HB.out.size); clear hb1)
    | (go_at_call 17; refine (drawPlaces_any _ _ _ n (HK.out _ HB.out) HB.out.size).mono ?_; rintro e w2 ⟨⟨u, p, hpl, hpb, hown, rfl⟩, hb2⟩; replace HB : Hid (Below w0.heap.size w0 w2) := HB.out.trans (hb2.mono HB.out.size); clear hb2))
  obtain ⟨k, capp, rfl⟩ : ∃ k capp, u = .slice (some ⟨k, 0, none⟩) 12 capp := by
    rcases hown.2 with ⟨_, h⟩ | ⟨g, cap, cur, h, _⟩
    · omega
    · exact ⟨g, cap, h⟩
  have HO : Hid (w2.ownsRow w1.heap.size 3 1 (.slice (some ⟨k, 0, none⟩) 12 capp) 12 (intsV p)) := hown
  clear hown
  obtain ⟨t, het⟩ : ∃ t, t = s ++ fourS (sumS s) := ⟨_, rfl⟩
  have htz : t.size = s.size + 4 := by rw [het]; exact seal_size s
  have HS : Hid (∀ w, Tab w → Calls Tryd.prog 18 #[.string s] w fun e w' => e = .returned (.tuple #[.string t, .bool true]) ∧ Below w.heap.size w w') := het ▸ implSealed_yes s (by omega)
  have HU : Hid (∀ w, Tab w → Calls Tryd.prog 19 #[.string t] w fun e w' => e = .returned (.tuple #[.string s, .bool true]) ∧ Below w.heap.size w w') := het ▸ implUn_seal s (by omega)
  have HET : Hid (t.data.toList = sealL s.data.toList) := het ▸ seal_data s
  clear het
  have HP : Hid _ := hpb
  clear hpb
  go_wp2_with (first
    | (go_at_call 18; refine (HS.out _ (HT.out _ HB.out)).mono ?_; rintro e w3 ⟨rfl, hb3⟩; replace HB : Hid (Below w0.heap.size w0 w3) := HB.out.trans (hb3.mono HB.out.size); replace HO : Hid (w3.ownsRow w1.heap.size 3 1 (.slice (some ⟨k, 0, none⟩) 12 capp) 12 (intsV p)) := owns_keep HO.out hb3; clear hb3)
    | (go_at_call 19; refine (HU.out _ (HT.out _ HB.out)).mono ?_; rintro e w4 ⟨rfl, hb4⟩; replace HB : Hid (Below w0.heap.size w0 w4) := HB.out.trans (hb4.mono HB.out.size); replace HO : Hid (w4.ownsRow w1.heap.size 3 1 (.slice (some ⟨k, 0, none⟩) 12 capp) 12 (intsV p)) := owns_keep HO.out hb4; clear hb4))
  obtain ⟨cap5, w5, hconv, hb5, hlt5, hcells5, hfz5⟩ := conv_bytes t w4
  rw [hconv]
  clear hconv
  have HO5 := owns_keep HO.out hb5
  have HB5 : Hid (Below w0.heap.size w0 w5) := HB.out.trans (hb5.mono HB.out.size)
  have hlen : (sealL s.data.toList).length = s.size + 4 := sealL_length s
  have h40 := hb5.size
  have h41 := HB.out.size
  obtain ⟨p0, p1, hp0, hp1, c0, c1⟩ : ∃ p0 p1 : Nat, p0 < 10000 ∧ p1 < 10000 ∧ w5.cell? ⟨k, 0, none⟩ = some (.int .i64 (p0 : Int)) ∧ w5.cell? ⟨k, 1, none⟩ = some (.int .i64 (p1 : Int)) := by
    refine ⟨p[0], p[1], HP.out _ (List.getElem_mem _), HP.out _ (List.getElem_mem _), ?_, ?_⟩
    · refine (HO5.cellAt 0 (by omega)).trans ?_
      simp [intsV]
      exact ⟨_, List.getElem?_eq_getElem _, rfl⟩
    · refine (HO5.cellAt 1 (by omega)).trans ?_
      simp [intsV]
      exact ⟨_, List.getElem?_eq_getElem _, rfl⟩
  obtain ⟨i, hi⟩ : ∃ i, i = p0 % (s.size + 4) := ⟨_, rfl⟩
  have hil : i < s.size + 4 := by rw [hi]; exact Nat.mod_lt _ (by omega)
  have ei : (p0 : Int) % ((s.size : Int) + 4) = (i : Int) := by rw [hi]; push_cast; rfl
  have hi' : i < (sealL s.data.toList).length := by omega
  obtain ⟨a, ha⟩ : ∃ a, a = (sealL s.data.toList)[i] := ⟨_, rfl⟩
  have cb : w5.cell? ⟨w4.heap.size, i, none⟩ = some (.int .u8 (a.toNat : Int)) := by
    rw [hcells5 i (by rw [HET.out]; exact hi'), ha]
    simp only [HET.out]
  have fb : w5.frozen? ⟨w4.heap.size, i, none⟩ = false := hfz5 i (by rw [HET.out]; exact hi')
  obtain ⟨c, hcd⟩ : ∃ c, c = UInt8.ofNat (a.toNat ^^^ (1 + p1 % 255)) := ⟨_, rfl⟩
  have ex : bits .xor .u8 (a.toNat : Int) (1 + (p1 : Int) % 255) = (c.toNat : Int) := by
    have h1 := a.toNat_lt
    have h2 : a.toNat ^^^ (1 + p1 % 255) < 2 ^ 8 := Nat.xor_lt_two_pow (by omega) (by omega)
    rw [show (1 + (p1 : Int) % 255) = ((1 + p1 % 255 : Nat) : Int) by omega, u8_xor_nat _ _ (by omega) (by omega), hcd, UInt8.toNat_ofNat']
    omega
  have hne : c ≠ (sealL s.data.toList)[i] := by rw [hcd, ← ha]; exact xor_turns a _ (by omega) (by omega)
  have HU2 : Hid (∀ w, Tab w → Calls Tryd.prog 19 #[.string (turned s i c)] w fun e w' => e = .returned (.tuple #[.string ⟨#[]⟩, .bool false]) ∧ Below w.heap.size w w') := implUn_turned s (by omega) i c hi' hne
  have HBACK : Hid (∀ w6 : World, w6.cell? ⟨w4.heap.size, i, none⟩ = some (.int .u8 (c.toNat : Int)) → (∀ j, j ≠ i → w6.cell? ⟨w4.heap.size, j, none⟩ = w5.cell? ⟨w4.heap.size, j, none⟩) →
      (convert 22 9 (.slice (some ⟨w4.heap.size, 0, none⟩) (s.size + 4) cap5)).run Tryd.prog w6 = .ok (.string (turned s i c)) w6) := fun w6 h1 h2 => by
    have := run_convert_bytes_back (P := Tryd.prog) w6 22 9 5 ⟨w4.heap.size, 0, none⟩ cap5 ((sealL s.data.toList).set i c) Tryd.underlying22 Tryd.underlying5 Tryd.underlying9 (fun j hj => by
      rw [Addr.add_lit, Nat.zero_add]
      rw [List.length_set] at hj
      by_cases hji : j = i
      · subst hji
        rw [h1, List.getElem_set_self]
      · rw [h2 j hji, hcells5 j (by rw [HET.out]; exact hj), List.getElem_set_ne (Ne.symm hji)]
        simp only [HET.out])
    rw [List.length_set, hlen] at this
    exact this
  have hal := a.toNat_lt
  clear hne hi' hcells5 hfz5 ha hcd hi HO HO5 HS HU HK HP HB hlen HET
  go_wp2
  rw [ei]
  go_region
  have hw6 : Below w0.heap.size w0 (w5.setCell ⟨w4.heap.size, i, none⟩ (.int .u8 (c.toNat : Int))).drew :=
    (HB5.out.trans (But.below (But.set w4.heap.size i w5 _) h41 HB5.out.size)).drew
  have HCV := HBACK.out (w5.setCell ⟨w4.heap.size, i, none⟩ (.int .u8 (c.toNat : Int))).drew (World.cell?_setCell_same _ _ _ cb) (fun j hj => World.cell?_setCell_other _ _ _ _ (by intro h; cases h; exact hj rfl))
  generalize (w5.setCell ⟨w4.heap.size, i, none⟩ (.int .u8 (c.toNat : Int))).drew = w6 at *
  have HB : Hid (Below w0.heap.size w0 w6) := hw6
  have hxs : (s ++ (⟨#[120]⟩ : ByteArray)).size = s.size + 1 := by rw [ByteArray.size_append]; rfl
  have HX : Hid (∀ w, Tab w → Calls Tryd.prog 21 #[.string (s ++ ⟨#[120]⟩)] w fun e w' => e = .returned (.int .u32 ((sumL (sumS s) [120] : Nat) : Int)) ∧ w' = w) := fun w ht => by
    have := implSum' (s ++ ⟨#[120]⟩) (by omega) w ht
    rwa [sum_x] at this
  have HM : Hid (∀ w, Tab w → Calls Tryd.prog 20 #[.int .u32 ((sumS s : Nat) : Int), .string ⟨#[120]⟩] w fun e w' => e = .returned (.int .u32 ((sumL (sumS s) [120] : Nat) : Int)) ∧ w' = w) := fun w ht => implMore (sumS s) (sumS_lt s) ⟨#[120]⟩ (by decide) w ht
  clear hw6 hb5 cb fb c0 c1 HB5 HBACK ex ei hil h40 h41 hlt5
  go_wp2_with (first
    | (go_at_call 19; refine (HU2.out _ (HT.out _ HB.out)).mono ?_; rintro e w7 ⟨rfl, hb7⟩; replace HB : Hid (Below w0.heap.size w0 w7) := HB.out.trans (hb7.mono HB.out.size); clear hb7)
    | (go_at_call 20; refine (HM.out _ (HT.out _ HB.out)).mono ?_; rintro e w8 ⟨rfl, rfl⟩)
    | (go_at_call 21; refine (HX.out _ (HT.out _ HB.out)).mono ?_; rintro e w9 ⟨rfl, rfl⟩)
    | (go_at_call 21; refine (implSum' s (by omega) _ (HT.out _ HB.out)).mono ?_; rintro e w9 ⟨rfl, rfl⟩))
  go_ret
  exact ⟨rfl, HB.out⟩

theorem walk_big (ao : Option Addr) (n cap : Nat) (h : 1048576 < n) (hm : n ≤ maxLen) (w : World) :
    Calls Tryd.prog 4 #[.slice ao n cap] w fun e w' => e = .returned (.bool true) ∧ Below w.heap.size w w' := by
  go_enter Tryd.func4, Tryd.ntmps4
  go_wp2_with (go_at_call 5; refine (big_yes _ _ _ h hm _).mono ?_; rintro e w0 ⟨rfl, rfl⟩)
  go_ret
  exact ⟨rfl, Below.refl _ _⟩

theorem contract (H : Type) (enc : TypeId × Value → H) (W : World) (base : Nat) (args : Array Value) (ds gs : List (DataW H)) (before : List MemPlace)
    (hval : ∀ (j : Nat) t v, Tryd.f4.params[j]? = some t → args[j]? = some v → Value.okWide Tryd.prog W .any base t v)
    (hW : DataW.Whole enc Tryd.prog Tryd.f4.params.toList Rows.fnTurnedSpec.vars false W args.toList ds gs before) (hL : laidMetH Tryd.prog Rows.fnTurnedRow.laid W) :
    Calls Tryd.prog 4 args W fun e W' => ∃ v, e = .returned v ∧ Rows.fnTurnedSpec.post enc Tryd.prog Tryd.f4 false true false false W args v W' := by
  have ht : Tab W := tab_of_laid hL
  have hW' := hW
  have hlt := hW.lt
  obtain ⟨p, q, hA0, hV, rfl, hfz, hnd⟩ := hW
  have hA : DataW.TrodAll enc Tryd.prog W 0 (fun _ => true) true Tryd.f4.params.toList args.toList ds p := hA0
  rw [Tryd.params4] at hA hval
  obtain ⟨v0, vs0, d0, ds0, p0, q0, hargs, rfl, rfl, h0, r0⟩ := trodAll_cons hA
  obtain ⟨rfl, rfl, rfl⟩ := trodAll_nil r0
  obtain rfl : args = #[v0] := by cases args; simp_all
  obtain rfl := half_open ht hV
  obtain ⟨ao, n, cap, hv0, hm, hcode⟩ := code_split (hval 0 22 v0 rfl rfl) h0
  clear hA0
  have fin : ∀ (e : Ending) (W' : World), e = .returned (.bool true) ∧ Below W.heap.size W W' → ∃ v, e = .returned v ∧ Rows.fnTurnedSpec.post enc Tryd.prog Tryd.f4 false true false false W #[v0] v W' := fun e W' ⟨he, bel⟩ => by
    subst he
    exact ⟨_, rfl, _, _, _, [], _, _, hW', trodAll_mk1 (shut_bool Tryd.underlying4 _), trodAll_cons_mk (Below.trod laidOutK readsCode rowCode h0 bel (fun x hx => hlt x (by simp [hx]))) trodAll_mk0, half_vars enc W' (ht.below bel (lt_of_tab ht)) _, bel.frame _, fun h => by cases h⟩
  by_cases hn : n ≤ 1048576
  · exact (walk v0 n W (hcode hn) ht).mono fin
  · subst hv0
    exact (walk_big ao n cap (by omega) hm W).mono fin

theorem laid_met (os : Os) : laidMet Tryd.prog Rows.fnTurnedRow.laid ((laidWorld os).forCall (fun _ _ => 0) ⟨#[], #[.slice none 0 0], []⟩).memory :=
  laidMet_of_run' 8 (by kernel_rfl) (by kernel_rfl)
theorem reads (os : Os) {H : Type} (enc : TypeId × Value → H) : ∃ places, DataW.whole enc Tryd.prog ((laidWorld os).forCall (fun _ _ => 0) ⟨#[], #[.slice none 0 0], []⟩).memory Tryd.f4.params.toList Rows.fnTurnedSpec.vars false (#[Value.slice none 0 0] : Array Value).toList 8 = some ([.nil], [halfH], places) :=
  ⟨MemPlace.row ⟨0, 0, none⟩ halfCells.size, by kernel_rfl⟩

set_option maxRecDepth 100000 in
theorem lifted (os : Os) (started : os.Started) (H : Type) (enc : TypeId × Value → H) (F : Stop.Interp) :
    ReturnsInHanded {} Tryd.checked os 4 .any ((OpenSpec.ofChange Rows.fnTurnedSpec).preRow enc Tryd.prog Tryd.f4 Rows.fnTurnedRow.domain false Rows.fnTurnedRow.laid) (((OpenSpec.ofChange Rows.fnTurnedSpec).at F).post enc Tryd.prog Tryd.f4 false true false false) := by
  obtain ⟨places, hx⟩ := reads os enc
  refine returnsInHanded_of_row (C := Tryd.checked) (s := OpenSpec.ofChange Rows.fnTurnedSpec) ownK started (by kernel_rfl) Tryd.func4
    (witness_row_at (enc := enc) (C := Tryd.checked) false (laidWorld os) #[.slice none 0 0] rfl (by kernel_rfl) (by kernel_rfl) (by kernel_rfl)
      (OpenSpec.preRow_of_cond 8 hx (by kernel_rfl) (fun k hk => by cases hk) (by kernel_rfl) (laid_met os))) ?_
  intro W base args ds gs before hval hW _ _ _ hL _ _
  exact contract H enc W base args ds gs before hval hW hL

theorem said : Rows.FnTurnedSaid :=
  OpenClaim.holds_of_cond 4 Tryd.f4 rfl rfl rfl rfl rfl rfl rfl ⟨rfl, rfl, rfl, rfl, rfl⟩ rfl rfl rfl rfl rfl (by kernel_rfl) Tryd.func4 (by kernel_rfl)
    (of_decide_eq_true (by kernel_rfl)) (by unfold Func.isWrapper; first | (rw [if_pos (by decide +kernel)]; kernel_rfl) | (rw [if_neg (by decide +kernel)]; exact ⟨rfl, rfl⟩))
    (fun os started H enc _ F => by rw [OpenClaim.pre_eq_preRow]; exact lifted os started H enc F)

theorem plain (f : FuncId) (fn : Func) (hf : Tryd.pinned.checked.prog.funcNamed "loop.example/g00469/laws.FnTurned" = some f) (hfn : Tryd.pinned.checked.prog.funcs[f]? = some fn) :
    false = Tryd.pinned.checked.prog.looks [] ∧ ∀ (j : Nat) t, fn.params[j]? = some t → Tryd.pinned.checked.prog.wantsStandIn t = false := by
  obtain rfl : f = 4 := Option.some.inj ((show Tryd.prog.funcNamed "loop.example/g00469/laws.FnTurned" = some 4 by kernel_rfl).symm.trans hf) |>.symm
  obtain rfl : fn = Tryd.f4 := (Option.some.inj (Tryd.func4.symm.trans hfn)).symm
  refine ⟨by kernel_rfl, fun j t ht => ?_⟩
  rw [Tryd.params4] at ht
  have hm := Array.mem_of_getElem? ht
  simp only [List.mem_toArray, List.mem_cons, List.not_mem_nil, or_false] at hm
  rcases hm with rfl
  exact (show Tryd.prog.wantsStandIn 22 = false by kernel_rfl)

theorem proved : Rows.FnTurnedCardSaid :=
  Claim7.holds_tied_plain_at .later [] _ _ _ _ said (fun _ h => by cases h) (by kernel_rfl) (fun _ h => by cases h) fnTurned_row_tie rfl ⟨rfl, rfl⟩ (by kernel_rfl) rfl plain (by kernel_rfl)
#print axioms proved
end Go.Proofs.YtdabglemkpokpaaDoor.fnTurned
