/- What newReader of package expr makes, whole. Conditions: none. -/
import Derived.Test.YtfhhigablibeoaaGreatDoorXK
namespace Go.Proofs.YtfhhigablibeoaaGreatDoor
open Go.RowKit Go.Lib Go.Sort
set_option linter.unusedVariables false
set_option maxRecDepth 20000

/-- The first of what lies behind the reader. -/
def StatK (w : World) (rb k : Nat) : Prop := ∀ i (h : i < (statV rb).length), i < k → w.cell? ⟨rb + (i + 1), 0, none⟩ = some (statV rb)[i]
theorem StatK.below {w w' : World} {rb k B : Nat} (h : StatK w rb k) (hB : Below B w w') (hb : rb + (k + 1) ≤ B := by omega) : StatK w' rb k := fun i hi hk => (hB.cell (p := ⟨rb + (i + 1), 0, none⟩) (by show rb + (i + 1) < B; omega)).trans (h i hi hk)
theorem StatK.add {w : World} {rb k : Nat} (h : StatK w rb k) (m : Nat) (hn : ∀ j, j < m → ∀ v, (statV rb)[k + j]? = some v → w.cell? ⟨rb + (k + j + 1), 0, none⟩ = some v) : StatK w rb (k + m) := fun i hi hk => by
  by_cases e : i < k
  · exact h i hi e
  · have := hn (i - k) (by omega) (statV rb)[i] (by rw [show k + (i - k) = i by omega]; exact List.getElem?_eq_getElem hi)
    rw [show k + (i - k) + 1 = i + 1 by omega] at this
    exact this
set_option maxHeartbeats 8000000 in
theorem newReader_any {p : Option Addr} {c : Nat} {xs l : Ts} (J : Int) (w : World) (hJ : J = (xs.length : Int) - (l.length : Int)) (ht : TR w p xs) (hg : Gl w) (hsuf : l <:+ xs) (hlen : xs.length ≤ 140737488351232) (hnn : 0 < xs.length) (hpls : ∀ i (h : i < xs.length), xs[i].2 ≤ 140737488351232) (htxt : ∀ x, x ∈ xs → x.1.s.length ≤ 140737488351232) :
    Calls Tryz.prog 20 #[.slice p xs.length c, .int .i64 J] w fun e w' => e = .returned (.pointer (some ⟨w.heap.size, 0, none⟩)) ∧ Below w.heap.size w w' ∧ RS w' w.heap.size p c xs l 32 := by
  have hm := hmf
  generalize hrb : w.heap.size = rb at *
  have M0 := hid (show ∀ w, w.heap.size = rb + 1 → Calls Tryz.prog 34 #[.pointer (some ⟨rb, 0, none⟩), .int .i64 8, (.func (.func 35) #[.pointer (some ⟨rb, 0, none⟩)] #[])] w (fun e w' => e = .returned (.func (.func 59) #[] #[.pointer (some ⟨rb + 1, 0, none⟩), .pointer (some ⟨rb + 2, 0, none⟩), .pointer (some ⟨rb + 3, 0, none⟩), .pointer (some ⟨rb + 4, 0, none⟩)]) ∧ Below (rb + 1) w w' ∧ w'.heap.size = rb + 5 ∧ w'.cell? ⟨rb + 1, 0, none⟩ = some (.pointer (some ⟨rb, 0, none⟩)) ∧ w'.cell? ⟨rb + 2, 0, none⟩ = some (.int .i64 8) ∧ w'.cell? ⟨rb + 3, 0, none⟩ = some ((.func (.func 35) #[.pointer (some ⟨rb, 0, none⟩)] #[])) ∧ w'.cell? ⟨rb + 4, 0, none⟩ = some ((.func (.func 59) #[] #[.pointer (some ⟨rb + 1, 0, none⟩), .pointer (some ⟨rb + 2, 0, none⟩), .pointer (some ⟨rb + 3, 0, none⟩), .pointer (some ⟨rb + 4, 0, none⟩)]))) from fun w h => ahead_mk rb (rb + 1) 8 (.func (.func 35) #[.pointer (some ⟨rb, 0, none⟩)] #[]) w h ⟨_, _, _, rfl⟩)
  have M1 := hid (show ∀ w, w.heap.size = rb + 5 → Calls Tryz.prog 36 #[.pointer (some ⟨rb, 0, none⟩), .int .i64 7, (.func (.func 59) #[] #[.pointer (some ⟨rb + 1, 0, none⟩), .pointer (some ⟨rb + 2, 0, none⟩), .pointer (some ⟨rb + 3, 0, none⟩), .pointer (some ⟨rb + 4, 0, none⟩)])] w (fun e w' => e = .returned (.func (.func 70) #[] #[.pointer (some ⟨rb + 7, 0, none⟩), .pointer (some ⟨rb + 5, 0, none⟩), .pointer (some ⟨rb + 6, 0, none⟩)]) ∧ Below (rb + 5) w w' ∧ w'.heap.size = rb + 8 ∧ w'.cell? ⟨rb + 5, 0, none⟩ = some (.pointer (some ⟨rb, 0, none⟩)) ∧ w'.cell? ⟨rb + 6, 0, none⟩ = some (.int .i64 7) ∧ w'.cell? ⟨rb + 7, 0, none⟩ = some ((.func (.func 59) #[] #[.pointer (some ⟨rb + 1, 0, none⟩), .pointer (some ⟨rb + 2, 0, none⟩), .pointer (some ⟨rb + 3, 0, none⟩), .pointer (some ⟨rb + 4, 0, none⟩)]))) from fun w h => row_mk rb (rb + 5) 7 (.func (.func 59) #[] #[.pointer (some ⟨rb + 1, 0, none⟩), .pointer (some ⟨rb + 2, 0, none⟩), .pointer (some ⟨rb + 3, 0, none⟩), .pointer (some ⟨rb + 4, 0, none⟩)]) w h ⟨_, _, _, rfl⟩)
  have M2 := hid (show ∀ w, w.heap.size = rb + 8 → Calls Tryz.prog 36 #[.pointer (some ⟨rb, 0, none⟩), .int .i64 6, (.func (.func 70) #[] #[.pointer (some ⟨rb + 7, 0, none⟩), .pointer (some ⟨rb + 5, 0, none⟩), .pointer (some ⟨rb + 6, 0, none⟩)])] w (fun e w' => e = .returned (.func (.func 70) #[] #[.pointer (some ⟨rb + 10, 0, none⟩), .pointer (some ⟨rb + 8, 0, none⟩), .pointer (some ⟨rb + 9, 0, none⟩)]) ∧ Below (rb + 8) w w' ∧ w'.heap.size = rb + 11 ∧ w'.cell? ⟨rb + 8, 0, none⟩ = some (.pointer (some ⟨rb, 0, none⟩)) ∧ w'.cell? ⟨rb + 9, 0, none⟩ = some (.int .i64 6) ∧ w'.cell? ⟨rb + 10, 0, none⟩ = some ((.func (.func 70) #[] #[.pointer (some ⟨rb + 7, 0, none⟩), .pointer (some ⟨rb + 5, 0, none⟩), .pointer (some ⟨rb + 6, 0, none⟩)]))) from fun w h => row_mk rb (rb + 8) 6 (.func (.func 70) #[] #[.pointer (some ⟨rb + 7, 0, none⟩), .pointer (some ⟨rb + 5, 0, none⟩), .pointer (some ⟨rb + 6, 0, none⟩)]) w h ⟨_, _, _, rfl⟩)
  have M3 := hid (show ∀ w, w.heap.size = rb + 11 → Calls Tryz.prog 36 #[.pointer (some ⟨rb, 0, none⟩), .int .i64 5, (.func (.func 70) #[] #[.pointer (some ⟨rb + 10, 0, none⟩), .pointer (some ⟨rb + 8, 0, none⟩), .pointer (some ⟨rb + 9, 0, none⟩)])] w (fun e w' => e = .returned (.func (.func 70) #[] #[.pointer (some ⟨rb + 13, 0, none⟩), .pointer (some ⟨rb + 11, 0, none⟩), .pointer (some ⟨rb + 12, 0, none⟩)]) ∧ Below (rb + 11) w w' ∧ w'.heap.size = rb + 14 ∧ w'.cell? ⟨rb + 11, 0, none⟩ = some (.pointer (some ⟨rb, 0, none⟩)) ∧ w'.cell? ⟨rb + 12, 0, none⟩ = some (.int .i64 5) ∧ w'.cell? ⟨rb + 13, 0, none⟩ = some ((.func (.func 70) #[] #[.pointer (some ⟨rb + 10, 0, none⟩), .pointer (some ⟨rb + 8, 0, none⟩), .pointer (some ⟨rb + 9, 0, none⟩)]))) from fun w h => row_mk rb (rb + 11) 5 (.func (.func 70) #[] #[.pointer (some ⟨rb + 10, 0, none⟩), .pointer (some ⟨rb + 8, 0, none⟩), .pointer (some ⟨rb + 9, 0, none⟩)]) w h ⟨_, _, _, rfl⟩)
  have M4 := hid (show ∀ w, w.heap.size = rb + 14 → Calls Tryz.prog 37 #[.pointer (some ⟨rb, 0, none⟩), (.func (.func 70) #[] #[.pointer (some ⟨rb + 13, 0, none⟩), .pointer (some ⟨rb + 11, 0, none⟩), .pointer (some ⟨rb + 12, 0, none⟩)])] w (fun e w' => e = .returned (.func (.func 72) #[] #[.pointer (some ⟨rb + 15, 0, none⟩), .pointer (some ⟨rb + 14, 0, none⟩)]) ∧ Below (rb + 14) w w' ∧ w'.heap.size = rb + 16 ∧ w'.cell? ⟨rb + 14, 0, none⟩ = some (.pointer (some ⟨rb, 0, none⟩)) ∧ w'.cell? ⟨rb + 15, 0, none⟩ = some ((.func (.func 70) #[] #[.pointer (some ⟨rb + 13, 0, none⟩), .pointer (some ⟨rb + 11, 0, none⟩), .pointer (some ⟨rb + 12, 0, none⟩)]))) from fun w h => test_mk rb (rb + 14) (.func (.func 70) #[] #[.pointer (some ⟨rb + 13, 0, none⟩), .pointer (some ⟨rb + 11, 0, none⟩), .pointer (some ⟨rb + 12, 0, none⟩)]) w h ⟨_, _, _, rfl⟩)
  have M5 := hid (show ∀ w, w.heap.size = rb + 16 → Calls Tryz.prog 34 #[.pointer (some ⟨rb, 0, none⟩), .int .i64 3, (.func (.func 72) #[] #[.pointer (some ⟨rb + 15, 0, none⟩), .pointer (some ⟨rb + 14, 0, none⟩)])] w (fun e w' => e = .returned (.func (.func 59) #[] #[.pointer (some ⟨rb + 16, 0, none⟩), .pointer (some ⟨rb + 17, 0, none⟩), .pointer (some ⟨rb + 18, 0, none⟩), .pointer (some ⟨rb + 19, 0, none⟩)]) ∧ Below (rb + 16) w w' ∧ w'.heap.size = rb + 20 ∧ w'.cell? ⟨rb + 16, 0, none⟩ = some (.pointer (some ⟨rb, 0, none⟩)) ∧ w'.cell? ⟨rb + 17, 0, none⟩ = some (.int .i64 3) ∧ w'.cell? ⟨rb + 18, 0, none⟩ = some ((.func (.func 72) #[] #[.pointer (some ⟨rb + 15, 0, none⟩), .pointer (some ⟨rb + 14, 0, none⟩)])) ∧ w'.cell? ⟨rb + 19, 0, none⟩ = some ((.func (.func 59) #[] #[.pointer (some ⟨rb + 16, 0, none⟩), .pointer (some ⟨rb + 17, 0, none⟩), .pointer (some ⟨rb + 18, 0, none⟩), .pointer (some ⟨rb + 19, 0, none⟩)]))) from fun w h => ahead_mk rb (rb + 16) 3 (.func (.func 72) #[] #[.pointer (some ⟨rb + 15, 0, none⟩), .pointer (some ⟨rb + 14, 0, none⟩)]) w h ⟨_, _, _, rfl⟩)
  have M6 := hid (show ∀ w, w.heap.size = rb + 20 → Calls Tryz.prog 36 #[.pointer (some ⟨rb, 0, none⟩), .int .i64 2, (.func (.func 59) #[] #[.pointer (some ⟨rb + 16, 0, none⟩), .pointer (some ⟨rb + 17, 0, none⟩), .pointer (some ⟨rb + 18, 0, none⟩), .pointer (some ⟨rb + 19, 0, none⟩)])] w (fun e w' => e = .returned (.func (.func 70) #[] #[.pointer (some ⟨rb + 22, 0, none⟩), .pointer (some ⟨rb + 20, 0, none⟩), .pointer (some ⟨rb + 21, 0, none⟩)]) ∧ Below (rb + 20) w w' ∧ w'.heap.size = rb + 23 ∧ w'.cell? ⟨rb + 20, 0, none⟩ = some (.pointer (some ⟨rb, 0, none⟩)) ∧ w'.cell? ⟨rb + 21, 0, none⟩ = some (.int .i64 2) ∧ w'.cell? ⟨rb + 22, 0, none⟩ = some ((.func (.func 59) #[] #[.pointer (some ⟨rb + 16, 0, none⟩), .pointer (some ⟨rb + 17, 0, none⟩), .pointer (some ⟨rb + 18, 0, none⟩), .pointer (some ⟨rb + 19, 0, none⟩)]))) from fun w h => row_mk rb (rb + 20) 2 (.func (.func 59) #[] #[.pointer (some ⟨rb + 16, 0, none⟩), .pointer (some ⟨rb + 17, 0, none⟩), .pointer (some ⟨rb + 18, 0, none⟩), .pointer (some ⟨rb + 19, 0, none⟩)]) w h ⟨_, _, _, rfl⟩)
  have M7 := hid (show ∀ w, w.heap.size = rb + 23 → Calls Tryz.prog 36 #[.pointer (some ⟨rb, 0, none⟩), .int .i64 1, (.func (.func 70) #[] #[.pointer (some ⟨rb + 22, 0, none⟩), .pointer (some ⟨rb + 20, 0, none⟩), .pointer (some ⟨rb + 21, 0, none⟩)])] w (fun e w' => e = .returned (.func (.func 70) #[] #[.pointer (some ⟨rb + 25, 0, none⟩), .pointer (some ⟨rb + 23, 0, none⟩), .pointer (some ⟨rb + 24, 0, none⟩)]) ∧ Below (rb + 23) w w' ∧ w'.heap.size = rb + 26 ∧ w'.cell? ⟨rb + 23, 0, none⟩ = some (.pointer (some ⟨rb, 0, none⟩)) ∧ w'.cell? ⟨rb + 24, 0, none⟩ = some (.int .i64 1) ∧ w'.cell? ⟨rb + 25, 0, none⟩ = some ((.func (.func 70) #[] #[.pointer (some ⟨rb + 22, 0, none⟩), .pointer (some ⟨rb + 20, 0, none⟩), .pointer (some ⟨rb + 21, 0, none⟩)]))) from fun w h => row_mk rb (rb + 23) 1 (.func (.func 70) #[] #[.pointer (some ⟨rb + 22, 0, none⟩), .pointer (some ⟨rb + 20, 0, none⟩), .pointer (some ⟨rb + 21, 0, none⟩)]) w h ⟨_, _, _, rfl⟩)
  have A0 := albl w (.cells #[.slice p xs.length c, .int .i64 J, .int .i64 0, .nilFunc] 66)
  have e0 := heap_alloc_new w (.cells #[.slice p xs.length c, .int .i64 J, .int .i64 0, .nilFunc] 66)
  rw [hrb] at A0 e0
  have hs : (w.alloc (.cells #[.slice p xs.length c, .int .i64 J, .int .i64 0, .nilFunc] 66)).heap.size = rb + 1 := by rw [← hrb]; simp
  have HA0 := hid A0
  have HE0 := hid e0
  have S := hid (show StatK (w.alloc (.cells #[.slice p xs.length c, .int .i64 J, .int .i64 0, .nilFunc] 66)) rb 0 from fun i hi hk => absurd hk (Nat.not_lt_zero _))
  have BB := hid (Below.refl (rb + 1) (w.alloc (.cells #[.slice p xs.length c, .int .i64 J, .int .i64 0, .nilFunc] 66)))
  have HG := hid hg
  have HT := hid ht
  have HJ := hid hJ
  clear A0 e0 hg ht hJ
  go_enter Tryz.func20, Tryz.ntmps20
  go_upto_region 2 with fail
  generalize hW : w.alloc _ = W at *
  clear hW
  go_upto_region 9 with (first
    | (go_at_call 34; go_loud (with_reducible refine (M0.out _ hs).mono ?_); rintro e0 w0 ⟨rfl, b0, hs', q0, q1, q2, q3⟩; have S' := hid ((S.out.below b0).add 4 (fun j hj v hv => by match j, hj with | 0, _ => cases hv; exact q0 | 1, _ => cases hv; exact q1 | 2, _ => cases hv; exact q2 | 3, _ => cases hv; exact q3)); have BB' := hid (BB.out.trans (b0.mono (by omega))); clear hs S BB b0 q0 q1 q2 q3 M0; have hs := hs'; have S := S'; have BB := BB'; clear hs' S' BB')
    | (go_at_call 36; go_loud (with_reducible refine (M1.out _ hs).mono ?_); rintro e1 w1 ⟨rfl, b1, hs', q0, q1, q2⟩; have S' := hid ((S.out.below b1).add 3 (fun j hj v hv => by match j, hj with | 0, _ => cases hv; exact q0 | 1, _ => cases hv; exact q1 | 2, _ => cases hv; exact q2)); have BB' := hid (BB.out.trans (b1.mono (by omega))); clear hs S BB b1 q0 q1 q2 M1; have hs := hs'; have S := S'; have BB := BB'; clear hs' S' BB')
    | (go_at_call 36; go_loud (with_reducible refine (M2.out _ hs).mono ?_); rintro e2 w2 ⟨rfl, b2, hs', q0, q1, q2⟩; have S' := hid ((S.out.below b2).add 3 (fun j hj v hv => by match j, hj with | 0, _ => cases hv; exact q0 | 1, _ => cases hv; exact q1 | 2, _ => cases hv; exact q2)); have BB' := hid (BB.out.trans (b2.mono (by omega))); clear hs S BB b2 q0 q1 q2 M2; have hs := hs'; have S := S'; have BB := BB'; clear hs' S' BB')
    | (go_at_call 36; go_loud (with_reducible refine (M3.out _ hs).mono ?_); rintro e3 w3 ⟨rfl, b3, hs', q0, q1, q2⟩; have S' := hid ((S.out.below b3).add 3 (fun j hj v hv => by match j, hj with | 0, _ => cases hv; exact q0 | 1, _ => cases hv; exact q1 | 2, _ => cases hv; exact q2)); have BB' := hid (BB.out.trans (b3.mono (by omega))); clear hs S BB b3 q0 q1 q2 M3; have hs := hs'; have S := S'; have BB := BB'; clear hs' S' BB')
    | (go_at_call 37; go_loud (with_reducible refine (M4.out _ hs).mono ?_); rintro e4 w4 ⟨rfl, b4, hs', q0, q1⟩; have S' := hid ((S.out.below b4).add 2 (fun j hj v hv => by match j, hj with | 0, _ => cases hv; exact q0 | 1, _ => cases hv; exact q1)); have BB' := hid (BB.out.trans (b4.mono (by omega))); clear hs S BB b4 q0 q1 M4; have hs := hs'; have S := S'; have BB := BB'; clear hs' S' BB')
    | (go_at_call 34; go_loud (with_reducible refine (M5.out _ hs).mono ?_); rintro e5 w5 ⟨rfl, b5, hs', q0, q1, q2, q3⟩; have S' := hid ((S.out.below b5).add 4 (fun j hj v hv => by match j, hj with | 0, _ => cases hv; exact q0 | 1, _ => cases hv; exact q1 | 2, _ => cases hv; exact q2 | 3, _ => cases hv; exact q3)); have BB' := hid (BB.out.trans (b5.mono (by omega))); clear hs S BB b5 q0 q1 q2 q3 M5; have hs := hs'; have S := S'; have BB := BB'; clear hs' S' BB')
    | (go_at_call 36; go_loud (with_reducible refine (M6.out _ hs).mono ?_); rintro e6 w6 ⟨rfl, b6, hs', q0, q1, q2⟩; have S' := hid ((S.out.below b6).add 3 (fun j hj v hv => by match j, hj with | 0, _ => cases hv; exact q0 | 1, _ => cases hv; exact q1 | 2, _ => cases hv; exact q2)); have BB' := hid (BB.out.trans (b6.mono (by omega))); clear hs S BB b6 q0 q1 q2 M6; have hs := hs'; have S := S'; have BB := BB'; clear hs' S' BB')
    | (go_at_call 36; go_loud (with_reducible refine (M7.out _ hs).mono ?_); rintro e7 w7 ⟨rfl, b7, hs', q0, q1, q2⟩; have S' := hid ((S.out.below b7).add 3 (fun j hj v hv => by match j, hj with | 0, _ => cases hv; exact q0 | 1, _ => cases hv; exact q1 | 2, _ => cases hv; exact q2)); have BB' := hid (BB.out.trans (b7.mono (by omega))); clear hs S BB b7 q0 q1 q2 M7; have hs := hs'; have S := S'; have BB := BB'; clear hs' S' BB')
    | fail)
  have M7' := M7
  clear M7
  go_wp2_with (first
    | (go_at_call 36; go_loud (with_reducible refine (M7'.out _ hs).mono ?_); rintro e9 w9 ⟨rfl, b9, hs9, q0, q1, q2⟩
       have S9 := hid ((S.out.below b9).add 3 (fun j hj v hv => by match j, hj with | 0, _ => cases hv; exact q0 | 1, _ => cases hv; exact q1 | 2, _ => cases hv; exact q2))
       have BB9 := hid (BB.out.trans (b9.mono (by omega)))
       have e9 := ((BB.out.trans (b9.mono (by omega))).block rb (Nat.lt_succ_self _)).trans HE0.out
       have HE9 := hid e9
       have hst : (store ⟨rb, 3, none⟩ (.func (.func 70) #[] #[.pointer (some ⟨rb + 25, 0, none⟩), .pointer (some ⟨rb + 23, 0, none⟩), .pointer (some ⟨rb + 24, 0, none⟩)])).run Tryz.prog w9 = .ok () (w9.setCell ⟨rb, 3, none⟩ (.func (.func 70) #[] #[.pointer (some ⟨rb + 25, 0, none⟩), .pointer (some ⟨rb + 23, 0, none⟩), .pointer (some ⟨rb + 24, 0, none⟩)])) := (by
         have c3 : w9.cell? ⟨rb, 3, none⟩ = some .nilFunc := (by rw [Lib.cell_of_heap e9]; rfl)
         have f3 : w9.frozen? ⟨rb, 3, none⟩ = false := Lib.frozen_of_heap e9 3
         rw [run_store Tryz.prog _ _ _ _ (by rfl), c3]
         simp [f3])
       clear b9 q0 q1 q2 e9)
    | fail)
  go_ret
  have hx := heap_setCell_same w9 rb 3 _ _ (.func (.func 70) #[] #[.pointer (some ⟨rb + 25, 0, none⟩), .pointer (some ⟨rb + 23, 0, none⟩), .pointer (some ⟨rb + 24, 0, none⟩)]) HE9.out
  have hB : Below rb w (w9.setCell ⟨rb, 3, none⟩ (.func (.func 70) #[] #[.pointer (some ⟨rb + 25, 0, none⟩), .pointer (some ⟨rb + 23, 0, none⟩), .pointer (some ⟨rb + 24, 0, none⟩)])) := (HA0.out.trans (BB9.out.mono (Nat.le_succ _))).setCell (p := ⟨rb, 3, none⟩) (Nat.le_refl _) _
  have CB : Chg (fun _ => False) w (w9.setCell ⟨rb, 3, none⟩ (.func (.func 70) #[] #[.pointer (some ⟨rb + 25, 0, none⟩), .pointer (some ⟨rb + 23, 0, none⟩), .pointer (some ⟨rb + 24, 0, none⟩)])) := Chg.of_below (by rw [hrb]; exact hB)
  have hgl1 := (Array.getElem?_eq_some_iff.1 HG.out.1).1
  have hgl2 := (Array.getElem?_eq_some_iff.1 HG.out.2).1
  refine ⟨rfl, hB, ⟨?_, ?_, ?_, ?_, fun i => Lib.frozen_of_heap hx i, fun i hi => ?_, HG.out.chg CB id id, ⟨by omega, by omega⟩, HT.out.chg CB (fun _ _ _ => id), fun b off e => ?_, hsuf, hlen, by omega, hnn, hpls, htxt⟩⟩
  · rw [Lib.cell_of_heap hx]; rfl
  · rw [Lib.cell_of_heap hx, ← HJ.out]; rfl
  · rw [Lib.cell_of_heap hx]; rfl
  · rw [Lib.cell_of_heap hx]; rfl
  · have h1 := S9.out i hi (by have : (statV rb).length = 25 := rfl; omega)
    exact (World.cell?_of_block (w := w9) (a := ⟨rb + (i + 1), 0, none⟩) (Below.heap_setCell _ _ _ _ (by show rb + (i + 1) ≠ rb; omega))).trans h1
  · obtain ⟨b2, off2, e2, q0, _⟩ := HT.out.at hnn
    rw [e] at e2
    cases e2
    have := cell_lt q0
    simp only at this
    omega
end Go.Proofs.YtfhhigablibeoaaGreatDoor
