import Derived.Test.YtbkjcccbjnehbanGreatDoorMh3
namespace Go.Proofs.YtbkjcccbjnehbanGreatDoor
open Go.RowKit
theorem SRd.sign2 {g : Nat} {L : List Sg} {lv nv : Value} {w : World} {d : Nat} {x u : Sg} {r : List Sg} {names : List ByteArray} (h : SRd g L lv nv w (some (d, ⟨x :: u :: r, names⟩))) :
   ∃ (p q lb cap : Nat), q = p + 1 ∧ lv = .slice (some ⟨lb, 0, none⟩) L.length cap ∧ q < L.length ∧ L.drop (q + 1) = r ∧ L.drop q = u :: r ∧ names.length ≤ p ∧ w.heap[g]? = some (.cells #[lv, .int .i64 (p : Int), .bool false, .int .i64 (d : Int), nv] 52 (0, 0)) ∧ LIn w g L lv ∧ NRow w (g + 1) names nv ∧
     w.cell? ⟨lb, p * 5, none⟩ = some (.int .i64 x.kind) ∧ w.cell? ⟨lb, p * 5 + 1, none⟩ = some (.string x.text) ∧ w.cell? ⟨lb, p * 5 + 2, none⟩ = some (.int .i64 x.num) ∧ w.cell? ⟨lb, p * 5 + 3, none⟩ = some (.int .i64 (x.at_ : Int)) ∧ w.cell? ⟨lb, p * 5 + 4, none⟩ = some (.bool x.near) ∧
     w.cell? ⟨lb, q * 5, none⟩ = some (.int .i64 u.kind) ∧ w.cell? ⟨lb, q * 5 + 1, none⟩ = some (.string u.text) ∧ w.cell? ⟨lb, q * 5 + 2, none⟩ = some (.int .i64 u.num) ∧ w.cell? ⟨lb, q * 5 + 3, none⟩ = some (.int .i64 (u.at_ : Int)) ∧ w.cell? ⟨lb, q * 5 + 4, none⟩ = some (.bool u.near) ∧ lb < g := by
 obtain ⟨p, lb, cap, rfl, hp, hd, hn, hg, hl, hnr, k0, k1, k2, k3, k4, hlg⟩ := h.sign
 have hq : p + 1 < L.length := by
   rcases Nat.lt_or_ge (p + 1) L.length with h | h
   · exact h
   · rw [List.drop_eq_nil_of_le h] at hd; cases hd
 have hx : L[p + 1] = u ∧ L.drop (p + 1 + 1) = r := by
   have hd' := hd
   rw [List.drop_eq_getElem_cons hq] at hd'
   exact List.cons.inj hd'
 obtain ⟨lb', cap', e, _, _, _, _, hc⟩ := hl.1.cells (by rintro rfl; simp at hp)
 obtain ⟨e1, _, _⟩ := Value.slice.inj e
 obtain rfl : lb = lb' := by simpa using e1
 obtain ⟨m0, m1, m2, m3, m4⟩ := hc (p + 1) hq
 rw [hx.1] at m0 m1 m2 m3 m4
 exact ⟨p, p + 1, lb, cap, rfl, rfl, hq, hx.2, hd, hn, hg, hl, hnr, k0, k1, k2, k3, k4, m0, m1, m2, m3, m4, hlg⟩
set_option maxHeartbeats 8000000 in
theorem s_near (g : Nat) (L : List Sg) (lv nv : Value) (d : Nat) (x : Sg) (r : List Sg) (names : List ByteArray) (w : World) (hL : L.length ≤ 3000) (hx : x.at_ ≤ 100000) (h : SRd g L lv nv w (some (d, ⟨x :: r, names⟩))) :
   Calls Tryz.prog 78 #[.pointer (some ⟨g, 0, none⟩)] w fun e w' => e = .returned (.bool (nearO x r)) ∧ Below w.heap.size w w' := by
 cases r with
 | nil =>
   obtain ⟨p, lb, cap, rfl, hp, hd, _, hg, _⟩ := h.sign
   obtain ⟨c0, c1, c2, c3, c4, cf⟩ := b5f hg
   obtain ⟨NL, hNL⟩ : ∃ NL, NL = L.length := ⟨_, rfl⟩
   have hpe : p + 1 = L.length := by
     have := congrArg List.length hd
     simp at this; omega
   have hpn : (p : Int) + 1 = (NL : Int) := by omega
   have hp3 : (p : Int) ≤ 3000 := by omega
   rw [← hNL] at c0
   have d1 : decide ((NL : Int) < (NL : Int)) = false := decide_eq_false (by omega)
   clear h hg cf hNL hpe hp hd hL hx
   go_enter Tryz.func78, Tryz.ntmps78
   go_upto_region 1 with fail
   go_quiet (fail)
   go_wp2
   go_ret
   exact ⟨rfl, ⟨rfl, rfl, rfl, Nat.le_refl _, fun _ _ => rfl⟩⟩
 | cons u r =>
   obtain ⟨p, q, lb, cap, hq, rfl, hqL, _, _, _, hg, _, _, k0, k1, k2, k3, k4, m0, m1, m2, m3, m4, _⟩ := h.sign2
   obtain ⟨c0, c1, c2, c3, c4, cf⟩ := b5f hg
   obtain ⟨NL, hNL⟩ : ∃ NL, NL = L.length := ⟨_, rfl⟩
   rw [← hNL] at c0 hqL
   have hsum : (p : Int) + 1 = (q : Int) := by omega
   have hp3 : (p : Int) ≤ 3000 := by omega
   have hpN : p < NL := by omega
   have d1 : decide ((q : Int) < (NL : Int)) = true := decide_eq_true (by omega)
   have d1' : decide (q < NL) = true := decide_eq_true hqL
   obtain ⟨xk, xt, xn, xa, xb⟩ := x
   obtain ⟨uk, ut, un, ua, ub⟩ := u
   simp only at k0 k1 k2 k3 k4 m0 m1 m2 m3 m4 hx
   obtain ⟨xa1, hxa⟩ : ∃ xa1, xa1 = xa + 1 := ⟨_, rfl⟩
   have hxs : (xa : Int) + 1 = (xa1 : Int) := by omega
   have hx3 : (xa : Int) ≤ 100000 := by omega
   have HV : Hid (nearO ⟨xk, xt, xn, xa, xb⟩ (⟨uk, ut, un, ua, ub⟩ :: r) = (decide (uk = 3) && decide (ua = xa1))) := by show _ = _; rw [hxa]; rfl
   clear h hg cf hNL hq hL hx hxa k0 k1 k2 k4 m1 m2 m4 c2 c3 c4
   by_cases h3 : uk = 3
   · subst h3
     by_cases ha : ua = xa1
     · subst ha
       go_enter Tryz.func78, Tryz.ntmps78
       go_upto_region 1 with fail
       go_quiet (fail)
       go_wp2
       go_ret
       exact ⟨by rw [HV.out]; simp, ⟨rfl, rfl, rfl, Nat.le_refl _, fun _ _ => rfl⟩⟩
     · have ha2 : ((ua : Int) == (xa1 : Int)) = false := by rw [beq_eq_false_iff_ne]; intro e; exact ha (by omega)
       have ha3 : (ua == xa1) = false := by simpa using ha
       have HV2 : Hid (nearO ⟨3, xt, xn, xa, xb⟩ [] = false) := rfl
       go_enter Tryz.func78, Tryz.ntmps78
       go_upto_region 1 with fail
       go_quiet (fail)
       go_wp2
       go_ret
       exact ⟨by rw [HV.out, decide_eq_false ha]; rfl, ⟨rfl, rfl, rfl, Nat.le_refl _, fun _ _ => rfl⟩⟩
   · have h32 : (uk == 3) = false := by simpa using h3
     go_enter Tryz.func78, Tryz.ntmps78
     go_upto_region 1 with fail
     go_quiet (fail)
     go_wp2
     go_ret
     exact ⟨by rw [HV.out, decide_eq_false h3]; rfl, ⟨rfl, rfl, rfl, Nat.le_refl _, fun _ _ => rfl⟩⟩
end Go.Proofs.YtbkjcccbjnehbanGreatDoor
