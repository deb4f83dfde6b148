/- What the lexer's first answers: the word with which a text begins. Conditions: the text lies within the reach; the library's variable of errors holds what its text lays. -/
import Derived.Test.YtekapdpfbkdflaaGreatDoorXB
import Derived.Test.YtekapdpfbkdflaaGreatDoorLxBlob
namespace Go.Proofs.YtekapdpfbkdflaaGreatDoor
open Go.RowKit Go.Lib Go.Sort
set_option linter.unusedVariables false
set_option maxRecDepth 20000

theorem first1_text {s : ByteArray} (h : 0 < s.size) : first1 s.data.toList =
    (if (s[0].toNat : Int) == 39 then mapK 3 (quo (s.data.toList.drop 1) [] 1)
    else if dig (s[0].toNat : Int) then (numD (s.data.toList.take (cntW isD s.data.toList))).map fun v => (⟨2, [], v⟩, cntW isD s.data.toList)
    else if isX s.data.toList then mapK 4 (blo (s.data.toList.drop 2) [] 2)
    else if ltr (s[0].toNat : Int) then some (⟨1, toLowerA (s.data.toList.take (cntW isW s.data.toList)), 0⟩, cntW isW s.data.toList)
    else if sym s.data.toList = 0 then none else some (⟨5, s.data.toList.take (sym s.data.toList), 0⟩, sym s.data.toList)) := by
  have e := data_cons h
  generalize s.data.toList.drop 1 = r at e ⊢
  generalize s.data.toList = l at e ⊢
  generalize s[0] = c at e ⊢
  subst e
  rfl

set_option maxHeartbeats 4000000 in
theorem first_core (s : ByteArray) (X : Option (Tk × Nat)) (c : Int) (b1 b2 b3 b4 : Bool) (w : World) (h : 0 < s.size) (hc : (s[0].toNat : Int) = c) (e1 : (c == 39) = b1)
    (D1 : Hid (∀ w, Calls Tryz.prog 27 #[.int .u8 c] w fun e w' => e = .returned (.bool b2) ∧ w' = w))
    (D2 : Hid (∀ w, Calls Tryz.prog 29 #[.string s] w fun e w' => e = .returned (.bool b3) ∧ w' = w))
    (D3 : Hid (∀ w, Calls Tryz.prog 31 #[.int .u8 c] w fun e w' => e = .returned (.bool b4) ∧ w' = w))
    (F : FuncId) (hF : Hid ((b1 = true → F = 26) ∧ (b1 = false → b2 = true → F = 28) ∧ (b1 = false → b2 = false → b3 = true → F = 30) ∧ (b1 = false → b2 = false → b3 = false → b4 = true → F = 32) ∧ (b1 = false → b2 = false → b3 = false → b4 = false → F = 33)))
    (C : Hid (∀ w', Below w.heap.size w w' → Calls Tryz.prog F #[.string s] w' fun e w'' => e = .returned (fstV X) ∧ Below w'.heap.size w' w'')) :
    Calls Tryz.prog 18 #[.string s] w fun e w' => e = .returned (fstV X) ∧ Below w.heap.size w w' := by
  have hz : (0 : Int) < (s.size : Int) := by omega
  have B0 : Below w.heap.size w (w.alloc (.cells #[.int .i64 0, .string ⟨#[]⟩, .int .i64 0, .int .i64 0] 56)) := (Below.refl _ _).alloc (Nat.le_refl _) _
  have HRES := hid (show Res (w.alloc (.cells #[.int .i64 0, .string ⟨#[]⟩, .int .i64 0, .int .i64 0] 56)) w.heap.size from heap_alloc_new w _)
  have C1 := hid (C.out _ B0)
  have ew : (w.alloc (.cells #[.int .i64 0, .string ⟨#[]⟩, .int .i64 0, .int .i64 0] 56)).heap.size = w.heap.size + 1 := by simp
  rw [ew] at C1
  have HB0 := hid B0
  clear C B0 ew
  unfold fstV at *
  generalize fk X = xk at *
  generalize fn X = xn at *
  generalize fz X = xz at *
  generalize (⟨(fs X).toArray⟩ : ByteArray) = xs at *
  have hFo := hF.out
  clear hF
  cases b1 with
  | true =>
    obtain rfl := hFo.1 rfl
    clear hFo
    go_enter Tryz.func18, Tryz.ntmps18
    go_wp2_with (go_at_call 26; with_reducible refine C1.out.mono ?_; rintro e w2 ⟨rfl, b2⟩; obtain ⟨z0, z1, z2, z3⟩ := (HRES.out.below b2 (Nat.lt_succ_self _)).cells; have zf := (HRES.out.below b2 (Nat.lt_succ_self _)).frozen; have BB := hid (HB0.out.trans (b2.mono (Nat.le_succ _))); clear b2)
    refine bodyPost_ret (by simp [results, Tryz.results18, go_sem, z0, z1, z2, z3]; try rfl) rfl ?_
    exact ⟨rfl, below_put4 BB.out⟩
  | false =>
    cases b2 with
    | true =>
      obtain rfl := hFo.2.1 rfl rfl
      clear hFo
      go_enter Tryz.func18, Tryz.ntmps18
      go_wp2_with (first
        | (go_at_call 27; with_reducible refine (D1.out _).mono ?_; rintro e w2 ⟨rfl, hw⟩; subst hw)
        | (go_at_call 28; with_reducible refine C1.out.mono ?_; rintro e w2 ⟨rfl, b2⟩; obtain ⟨z0, z1, z2, z3⟩ := (HRES.out.below b2 (Nat.lt_succ_self _)).cells; have zf := (HRES.out.below b2 (Nat.lt_succ_self _)).frozen; have BB := hid (HB0.out.trans (b2.mono (Nat.le_succ _))); clear b2))
      refine bodyPost_ret (by simp [results, Tryz.results18, go_sem, z0, z1, z2, z3]; try rfl) rfl ?_
      exact ⟨rfl, below_put4 BB.out⟩
    | false =>
      cases b3 with
      | true =>
        obtain rfl := hFo.2.2.1 rfl rfl rfl
        clear hFo
        go_enter Tryz.func18, Tryz.ntmps18
        go_wp2_with (first
          | (go_at_call 27; with_reducible refine (D1.out _).mono ?_; rintro e w2 ⟨rfl, hw⟩; subst hw)
          | (go_at_call 29; with_reducible refine (D2.out _).mono ?_; rintro e w2 ⟨rfl, hw⟩; subst hw)
          | (go_at_call 30; with_reducible refine C1.out.mono ?_; rintro e w2 ⟨rfl, b2⟩; obtain ⟨z0, z1, z2, z3⟩ := (HRES.out.below b2 (Nat.lt_succ_self _)).cells; have zf := (HRES.out.below b2 (Nat.lt_succ_self _)).frozen; have BB := hid (HB0.out.trans (b2.mono (Nat.le_succ _))); clear b2))
        refine bodyPost_ret (by simp [results, Tryz.results18, go_sem, z0, z1, z2, z3]; try rfl) rfl ?_
        exact ⟨rfl, below_put4 BB.out⟩
      | false =>
        cases b4 with
        | true =>
          obtain rfl := hFo.2.2.2.1 rfl rfl rfl rfl
          clear hFo
          go_enter Tryz.func18, Tryz.ntmps18
          go_wp2_with (first
            | (go_at_call 27; with_reducible refine (D1.out _).mono ?_; rintro e w2 ⟨rfl, hw⟩; subst hw)
            | (go_at_call 29; with_reducible refine (D2.out _).mono ?_; rintro e w2 ⟨rfl, hw⟩; subst hw)
            | (go_at_call 31; with_reducible refine (D3.out _).mono ?_; rintro e w2 ⟨rfl, hw⟩; subst hw)
            | (go_at_call 32; with_reducible refine C1.out.mono ?_; rintro e w2 ⟨rfl, b2⟩; obtain ⟨z0, z1, z2, z3⟩ := (HRES.out.below b2 (Nat.lt_succ_self _)).cells; have zf := (HRES.out.below b2 (Nat.lt_succ_self _)).frozen; have BB := hid (HB0.out.trans (b2.mono (Nat.le_succ _))); clear b2))
          refine bodyPost_ret (by simp [results, Tryz.results18, go_sem, z0, z1, z2, z3]; try rfl) rfl ?_
          exact ⟨rfl, below_put4 BB.out⟩
        | false =>
          obtain rfl := hFo.2.2.2.2 rfl rfl rfl rfl
          clear hFo
          go_enter Tryz.func18, Tryz.ntmps18
          go_wp2_with (first
            | (go_at_call 27; with_reducible refine (D1.out _).mono ?_; rintro e w2 ⟨rfl, hw⟩; subst hw)
            | (go_at_call 29; with_reducible refine (D2.out _).mono ?_; rintro e w2 ⟨rfl, hw⟩; subst hw)
            | (go_at_call 31; with_reducible refine (D3.out _).mono ?_; rintro e w2 ⟨rfl, hw⟩; subst hw)
            | (go_at_call 33; with_reducible refine C1.out.mono ?_; rintro e w2 ⟨rfl, b2⟩; obtain ⟨z0, z1, z2, z3⟩ := (HRES.out.below b2 (Nat.lt_succ_self _)).cells; have zf := (HRES.out.below b2 (Nat.lt_succ_self _)).frozen; have BB := hid (HB0.out.trans (b2.mono (Nat.le_succ _))); clear b2))
          refine bodyPost_ret (by simp [results, Tryz.results18, go_sem, z0, z1, z2, z3]; try rfl) rfl ?_
          exact ⟨rfl, below_put4 BB.out⟩

theorem xfirst_any (s : ByteArray) (w : World) (h : 0 < s.size) (hs : s.size ≤ 140737488351232) (hw : Rdy w) :
    Calls Tryz.prog 18 #[.string s] w fun e w' => e = .returned (fstV (first1 s.data.toList)) ∧ Below w.heap.size w w' := by
  have D1 := hid (fun w => xdigit_any (s[0].toNat : Int) w)
  have D2 := hid (fun w => xbeginsBlob_any s w h hs)
  have D3 := hid (fun w => xletter_any (s[0].toNat : Int) w)
  rw [first1_text h]
  cases hb1 : ((s[0].toNat : Int) == 39) with
  | true =>
    rw [if_pos rfl]
    exact first_core s _ _ true _ _ _ w h rfl hb1 D1 D2 D3 26 ⟨fun _ => rfl, fun h => by simp at h, fun h => by simp at h, fun h => by simp at h, fun h => by simp at h⟩ (fun w' _ => xquoted_any s w' h hs)
  | false =>
    rw [if_neg (by simp)]
    cases hb2 : dig (s[0].toNat : Int) with
    | true =>
      rw [if_pos rfl]
      rw [hb2] at D1
      exact first_core s _ _ false true _ _ w h rfl hb1 D1 D2 D3 28 ⟨fun h => by simp at h, fun _ _ => rfl, fun _ h => by simp at h, fun _ h => by simp at h, fun _ h => by simp at h⟩ (fun w' hb => xnumber_any s w' h hb2 hs (hw.below hb))
    | false =>
      rw [if_neg (by simp)]
      rw [hb2] at D1
      cases hb3 : isX s.data.toList with
      | true =>
        rw [if_pos rfl]
        rw [hb3] at D2
        have h2 : 2 ≤ s.size := by
          rcases Nat.lt_or_ge 1 s.size with h2 | h2
          · exact h2
          · exfalso
            rw [data_cons h, drop_end s h2] at hb3
            simp [isX] at hb3
        exact first_core s _ _ false false true _ w h rfl hb1 D1 D2 D3 30 ⟨fun h => by simp at h, fun _ h => by simp at h, fun _ _ _ => rfl, fun _ _ h => by simp at h, fun _ _ h => by simp at h⟩ (fun w' _ => xblob_any s w' h2 hs)
      | false =>
        rw [if_neg (by simp)]
        rw [hb3] at D2
        cases hb4 : ltr (s[0].toNat : Int) with
        | true =>
          rw [if_pos rfl]
          rw [hb4] at D3
          exact first_core s _ _ false false false true w h rfl hb1 D1 D2 D3 32 ⟨fun h => by simp at h, fun _ h => by simp at h, fun _ _ h => by simp at h, fun _ _ _ _ => rfl, fun _ _ _ h => by simp at h⟩ (fun w' _ => xwordT_any s w' hs)
        | false =>
          rw [if_neg (by simp)]
          rw [hb4] at D3
          exact first_core s _ _ false false false false w h rfl hb1 D1 D2 D3 33 ⟨fun h => by simp at h, fun _ h => by simp at h, fun _ _ h => by simp at h, fun _ _ _ h => by simp at h, fun _ _ _ _ => rfl⟩ (fun w' _ => xsymbol_any s w' h hs)
end Go.Proofs.YtekapdpfbkdflaaGreatDoor
