/- The specification's PartsOf hands back ptRes, in a row of its own. -/
import Derived.Test.YtdabglemkpokpakDoorStrRow
import Derived.Test.YtdabglemkpokpakDoorPtPlain
import Derived.Lib.Strings
namespace Go.Proofs.YtdabglemkpokpakDoor
open Go.RowKit Go.BigFrame

theorem info9 : (Tryd.prog.info? 9).map (fun i => (i.zero, i.size, i.bytes)) = some (some (.string ⟨#[]⟩), 1, 16) := by kernel_rfl

theorem fresh9 (w : World) (B : Nat) (hB : B ≤ w.heap.size) : (w.alloc (.cells #[] 9)).ownsRow B 9 1 (.slice (some ⟨w.heap.size, 0, none⟩) 0 0) 0 (strsV []) := by
  refine ⟨rfl, Or.inr ⟨w.heap.size, 0, #[], rfl, hB, ?_, Nat.le_refl _, by decide, rfl, rfl⟩⟩
  show (w.heap.push _)[_]? = _
  simp

theorem own_pushS {w wr w1 : World} {B : Nat} {v v' : Value} {xs : List (List UInt8)} {o : Obj} (l : List UInt8) (hb : Below B w wr) (hB : B ≤ wr.heap.size)
    (hown : wr.ownsRow B 9 1 v xs.length (strsV xs)) (hown' : w1.ownsRow B 9 1 v' (xs.length + 1) (strsV xs ++ [Value.string ⟨l.toArray⟩])) (hg : (wr.alloc o).grownBy w1 v.ownBlock) :
    w1.ownsRow B 9 1 v' (xs ++ [l]).length (strsV (xs ++ [l])) ∧ Below B w w1 := by
  refine ⟨by rw [strsV_append, List.length_append]; exact hown', (hb.alloc hB o).grown hg (by simp; omega) ?_⟩
  intro k hk
  rcases hown.2 with ⟨rfl, _⟩ | ⟨g, cap, cur, rfl, hge, _⟩
  · cases hk
  · cases hk; exact hge

theorem extract_mid (s : ByteArray) (b i : Nat) : s.extract b i = ⟨(mid s b i).toArray⟩ := by
  have h := Lib.extract_data s b i
  apply ByteArray.ext
  apply Array.ext'
  rw [h]; rfl

set_option maxRecDepth 100000 in
set_option maxHeartbeats 2000000 in
theorem specPt_any (s : ByteArray) (w : World) (hs : s.size ≤ 1048576) :
    Calls Tryd.prog 8 #[.string s] w fun e w' => ∃ v, e = .returned (.tuple #[v, .bool (ptOk s)]) ∧ w'.ownsRow w.heap.size 9 1 v (ptRes s).length (strsV (ptRes s)) ∧ Below w.heap.size w w' := by
  obtain ⟨i0, hi, hz0, hz1, hz2⟩ := info_parts info9
  by_cases h1 : 600 < s.size
  · have hk := ptOk_long h1
    rw [ptRes_no hk, hk]
    clear hk
    go_enter Tryd.func8, Tryd.ntmps8
    go_wp2
    go_ret2
    exact ⟨_, rfl, fresh9 w _ (Nat.le_refl _), (Below.refl _ _).alloc (Nat.le_refl _) _⟩
  go_enter Tryd.func8, Tryd.ntmps8
  go_wp2
  go_loopw [4, 5, 6] (fun v vb vi wr => ∃ (xs : List (List UInt8)) (b i : Nat), vi = .int .i64 i ∧ vb = .int .i64 b ∧ b ≤ i ∧ i ≤ s.size + 1 ∧ xs.length ≤ i ∧ Hid (plainAt s i) ∧
      wr.ownsRow w.heap.size 9 1 v xs.length (strsV xs) ∧ Below w.heap.size w wr ∧ Hid ((i ≤ s.size ∧ xs ++ Lib.fieldsGo (mid s b i) (s.data.toList.drop i) = Lib.fields s.data.toList) ∨ (i = s.size + 1 ∧ xs = Lib.fields s.data.toList)))
    (fun _ _ i _ => s.size + 1 - (intOf i).toNat)
  case atStart => exact ⟨[], 0, 0, rfl, rfl, Nat.le_refl _, Nat.zero_le _, Nat.le_refl _, fun j _ h => by omega, fresh9 w _ (Nat.le_refl _), (Below.refl _ _).alloc (Nat.le_refl _) _, Or.inl ⟨Nat.zero_le _, by simp [mid, Lib.fields]⟩⟩
  case round =>
    obtain ⟨xs, b, i, rfl, rfl, hbi, hi1, hxl, hP, hown, hbel, hF⟩ := hrel
    have hsz := hbel.size
    by_cases hle : i ≤ s.size
    · have hG : xs ++ Lib.fieldsGo (mid s b i) (s.data.toList.drop i) = Lib.fields s.data.toList := by
        rcases hF.out with h | h
        · exact h.2
        · omega
      have HG : Hid _ := hG
      clear hG hF
      by_cases hlt : i < s.size
      · have hc8 := UInt8.toNat_lt s[i]
        by_cases h2 : s[i].toNat < 32
        · have hk : Hid (ptOk s = false) := ptOk_byte i hlt (by omega)
          go_wp2
          go_ret2
          exact ⟨_, by rw [hk.out]; rfl, by rw [ptRes_no hk.out]; exact fresh9 _ _ hsz, hbel.alloc hsz _⟩
        by_cases h3 : 126 < s[i].toNat
        · have hk : Hid (ptOk s = false) := ptOk_byte i hlt (by omega)
          go_wp2
          go_ret2
          exact ⟨_, by rw [hk.out]; rfl, by rw [ptRes_no hk.out]; exact fresh9 _ _ hsz, hbel.alloc hsz _⟩
        have hP' : Hid (plainAt s (i + 1)) := by
          intro j hj hjk
          by_cases e : j = i
          · subst e; omega
          · exact hP.out j hj (by omega)
        clear hP
        by_cases h4 : s[i].toNat = 32
        · have hb32 : ((s[i].toNat : Int) != 32) = false := by rw [bne_eq_false_iff_eq]; omega
          by_cases h5 : b < i
          · have hG' : Hid ((xs ++ [mid s b i]) ++ Lib.fieldsGo (mid s (i + 1) (i + 1)) (s.data.toList.drop (i + 1)) = Lib.fields s.data.toList) := by
              have := HG.out
              rw [go_cut1 s i _ hlt h4 (fun e => by have := mid_len s b i (by omega); rw [e] at this; simp at this; omega)] at this
              show _ = _
              rw [mid_same, List.append_assoc]; exact this
            have hex := extract_mid s b i
            have HX : Hid _ := hex
            clear HG h4 hex
            go_wp2_with (at_builtin; refine wpList_append_own _ rfl _ _ 22 rfl w.heap.size 9 i0 (.string ⟨#[]⟩) 1 16 Tryd.underlying22 hi hz0 hz1 hz2 rfl (by decide) _ _ _ rfl (hown.alloc _) ⟨wr.heap.size, 0, none⟩ 1 1 [.string (s.extract b i)] rfl rfl ?c1 ?c2 ?c3 ?c4 ?c5 ?_)
            case c1 => exact cell_one_new _ _ _
            case c2 => intro u hu; simp at hu; subst hu; rfl
            case c3 => unfold maxLen; omega
            case c4 => omega
            case c5 => simp; omega
            · intro v' w1 hown' hgrow _
              rw [HX.out] at hown'
              have R := own_pushS (mid s b i) hbel hsz hown hown' hgrow
              clear hown hown' hgrow
              go_wp2
              go_roundw
              case rel => exact ⟨_, i + 1, i + 1, by go_num, by go_num, Nat.le_refl _, by omega, by simp; omega, hP', R.1, R.2, Or.inl ⟨by omega, hG'.out⟩⟩
              case measure => simp [intOf]; omega
          · obtain rfl : b = i := by omega
            have hG' : Hid (xs ++ Lib.fieldsGo (mid s (b + 1) (b + 1)) (s.data.toList.drop (b + 1)) = Lib.fields s.data.toList) := by
              have := HG.out
              rw [mid_same, go_cut0 s b hlt h4] at this
              show _ = _
              rw [mid_same]; exact this
            clear HG h4
            go_wp2
            go_roundw
            case rel => exact ⟨xs, b + 1, b + 1, by go_num, by go_num, Nat.le_refl _, by omega, by omega, hP', hown, hbel, Or.inl ⟨by omega, hG'.out⟩⟩
            case measure => simp [intOf]; omega
        · have hb32 : ((s[i].toNat : Int) != 32) = true := by rw [bne_iff_ne]; omega
          have hG' : Hid (xs ++ Lib.fieldsGo (mid s b (i + 1)) (s.data.toList.drop (i + 1)) = Lib.fields s.data.toList) := by
            have := HG.out
            rw [go_on s i _ hlt (by omega) h4] at this
            show _ = _
            rw [mid_more s b i hbi hlt]; exact this
          clear HG h4
          go_wp2
          go_roundw
          case rel => exact ⟨xs, b, i + 1, by go_num, by go_num, by omega, by omega, by omega, hP', hown, hbel, Or.inl ⟨by omega, hG'.out⟩⟩
          case measure => simp [intOf]; omega
      · obtain rfl : i = s.size := by omega
        have hP' : Hid (plainAt s (s.size + 1)) := fun j hj _ => hP.out j hj hj
        clear hP
        by_cases h5 : b < s.size
        · have hG' : Hid ((xs ++ [mid s b s.size]) = Lib.fields s.data.toList) := by
            have := HG.out
            rw [go_end, if_neg (by
              intro e
              have h := mid_len s b s.size (Nat.le_refl _)
              rw [List.isEmpty_iff.1 e] at h
              simp at h; omega)] at this
            exact this
          have hex := extract_mid s b s.size
          have HX : Hid _ := hex
          clear HG hex
          go_wp2_with (at_builtin; refine wpList_append_own _ rfl _ _ 22 rfl w.heap.size 9 i0 (.string ⟨#[]⟩) 1 16 Tryd.underlying22 hi hz0 hz1 hz2 rfl (by decide) _ _ _ rfl (hown.alloc _) ⟨wr.heap.size, 0, none⟩ 1 1 [.string (s.extract b s.size)] rfl rfl ?d1 ?d2 ?d3 ?d4 ?d5 ?_)
          case d1 => exact cell_one_new _ _ _
          case d2 => intro u hu; simp at hu; subst hu; rfl
          case d3 => unfold maxLen; omega
          case d4 => omega
          case d5 => simp; omega
          · intro v' w1 hown' hgrow _
            rw [HX.out] at hown'
            have R := own_pushS (mid s b s.size) hbel hsz hown hown' hgrow
            clear hown hown' hgrow
            go_wp2
            go_roundw
            case rel => exact ⟨_, s.size + 1, s.size + 1, by go_num, by go_num, Nat.le_refl _, by omega, by simp; omega, hP', R.1, R.2, Or.inr ⟨rfl, hG'.out⟩⟩
            case measure => simp [intOf]
        · obtain rfl : b = s.size := by omega
          have hG' : Hid (xs = Lib.fields s.data.toList) := by
            have := HG.out
            rw [mid_same, go_end] at this
            show _ = _
            simpa using this
          clear HG
          go_wp2
          go_roundw
          case rel => exact ⟨xs, s.size + 1, s.size + 1, by go_num, by go_num, Nat.le_refl _, by omega, by omega, hP', hown, hbel, Or.inr ⟨rfl, hG'.out⟩⟩
          case measure => simp [intOf]
    · have hxs : xs = Lib.fields s.data.toList := by
        rcases hF.out with h | h
        · omega
        · exact h.2
      have hPP : plainAt s s.size := fun j hj _ => hP.out j hj (by omega)
      have HX : Hid _ := hxs
      have HPP : Hid _ := hPP
      have hown1 := hown
      by_cases h6 : 10 < xs.length
      · have hk : Hid (ptOk s = false) := ptOk_many (by rw [← hxs]; exact h6)
        clear hF hP hxs hPP
        rcases hown.2 with ⟨rfl, hz⟩ | ⟨g, cap, cur, rfl, _⟩
        · omega
        · go_wp2
          go_ret2
          exact ⟨_, by rw [hk.out]; rfl, by rw [ptRes_no hk.out]; exact fresh9 _ _ hsz, hbel.alloc hsz _⟩
      · have hk : Hid (ptOk s = true) := ptOk_yes (by omega) hPP (by rw [← hxs]; omega)
        clear hF hP hxs hPP
        rcases hown.2 with ⟨rfl, hz⟩ | ⟨g, cap, cur, rfl, _⟩
        all_goals
          go_wp2
          go_ret2
          exact ⟨_, by rw [hk.out]; rfl, by rw [ptRes_yes hk.out, ← HX.out]; exact hown1, hbel⟩
end Go.Proofs.YtdabglemkpokpakDoor
