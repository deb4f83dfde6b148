/- The law RowsCuts returns true and writes nothing that was there. Conditions: the row and the bytes lie within the reach. -/
import Derived.Test.YtaoeonbhlpnjiaaRowLaws
namespace Go.Proofs.Ytaoeonbhlpnjiaa
open Go.RowKit Go.Lib Go.Sort
set_option linter.unusedVariables false

/-- append(s, x...) of bytes in memory onto owned ones. -/
theorem appYs {ops : Array Oper} {rest : List Oper} {o : Oper} {a : Act} {w : World} {Q : Exit → Act → World → Prop} (base : Nat) (s x : Operand) (v : Value) (l m : List UInt8) (M : Nat) (p : Option Addr) (c : Nat) (hM : m.length = M) (hgd : o.guard = none)
    (ho : o.op = .call { callee := .builtin .append, args := #[s, x], argTypes := #[24, 24] }) (hs : a.eval s = v) (hx : a.eval x = .slice p M c)
    (O : OwnB w base v l) (hp : p = none → c = 0) (rY : Byts w p m) (hl : l.length + M ≤ 140737488351232) (hb : base ≤ w.heap.size)
    (h : ∀ v' w', OwnB w' base v' (l ++ m) → Below base w w' → wpList Try.prog ops Q rest (a.put o.dst v') w') :
    wpList Try.prog ops Q (o :: rest) a w := by
  subst hM
  obtain ⟨i0, hi, hz0, hz1, hz2⟩ := info_parts infoByte
  cases p with
  | none =>
    obtain rfl := hp rfl
    obtain rfl : m = [] := by
      rcases rY with h0 | ⟨_, _, h0, _⟩
      · exact h0
      · cases h0
    refine wpList_append_own_none hgd s x 24 ho base 5 i0 1 Try.underlying24 hi v _ _ hs O hx (h v w ?_ (Below.refl _ _))
    rw [List.append_nil]
    exact O
  | some ad =>
    refine wpList_append_own w hgd s x 24 ho base 5 i0 _ 1 1 Try.underlying24 hi hz0 hz1 hz2 rfl (by decide) v _ _ hs O ad m.length c (bcells m) hx (by simp [bcells]) (rY.cells ad rfl) (bcells_one m) (by unfold maxLen; omega) (by omega) hb ?_
    intro v' w' h2 h3 _
    refine h v' w' ?_ ((Below.refl base w).grown h3 hb (fun k hk => (O.lt k hk).1))
    unfold OwnB
    rw [List.length_append, ← bcells_append]
    exact h2

theorem byts_none {w : World} {l : List UInt8} (h : 0 < l.length) : ¬ Byts w none l := by
  rintro (h1 | ⟨b, off, h1, _⟩)
  · rw [h1] at h; exact absurd h (by decide)
  · cases h1

set_option maxRecDepth 20000 in
set_option maxHeartbeats 8000000 in
theorem rcuts_walk (xs : List Val) (at' : Int) (m : List UInt8) (p1 p2 : Option Addr) (c1 c2 : Nat) (w : World) (hz : xs.length * 32 ≤ 140737488351232) (hm : m.length ≤ 140737488351232) (hat : -9223372036854775808 ≤ at' ∧ at' ≤ 9223372036854775807) (hc : m.length ≤ c2) (n2 : p2 = none → m.length = 0 ∧ c2 = 0) (rX : Row w p1 xs) (rY : Byts w p2 m)
    (hn : ∀ v ∈ xs, -9223372036854775808 ≤ v.n ∧ v.n ≤ 9223372036854775807) :
    Calls Try.prog 8 #[.slice p1 xs.length c1, .int .i64 at', .slice p2 m.length c2] w fun e w' => e = .returned (.bool true) ∧ Below w.heap.size w w' := by
  have HX : Hid (Row w p1 xs) := rX
  have HY : Hid (Byts w p2 m) := rY
  have HnY : Hid (p2 = none → c2 = 0) := fun h => (n2 h).2
  have WK := fun w => worksW_any w
  have SH : Hid (∀ w, Row w p1 xs → Calls Try.prog 9 #[.slice p1 xs.length c1] w fun e w' => e = .returned (.bool (shortW xs)) ∧ w' = w) := fun w r => short_any p1 xs c1 w r hz
  obtain ⟨U, hU⟩ : ∃ U : Nat, IntKind.u64.wrap at' = (U : Int) := ⟨(IntKind.u64.wrap at').toNat, by rw [IntKind.wrap_u64]; omega⟩
  clear rX rY n2 hat
  cases hsh : shortW xs
  · simp only [hsh] at SH
    clear hn
    go_enter Try.func8, Try.ntmps8
    go_wp2_with (first
      | (go_at_call 17; with_reducible refine (WK _).mono ?_; rintro e w1 ⟨rfl, b1⟩; have B1 := hid b1; clear b1; have SH' := SH.out w1 (HX.out.below B1.out))
      | (go_at_call 9; with_reducible refine SH'.mono ?_; rintro e w2 ⟨rfl, hw⟩; subst hw)
      | fail)
    go_ret
    exact ⟨rfl, B1.out⟩
  simp only [hsh] at SH
  have hbk := shortW_bulk hsh
  have hlen := bulkR_len xs
  clear hsh
  by_cases her : errE xs = 0
  case neg =>
    have E1 : Hid (∀ w, Row w p1 xs → Calls Try.prog 10 #[.slice p1 xs.length c1] w fun e w' => Below w.heap.size w w' ∧ ∃ p c, e = .returned (.tuple #[.slice p 0 c, .int .i64 (errE xs)])) := fun w r => (rencode_any p1 xs c1 w r hn (by omega)).mono fun e w' h => by
      obtain ⟨B, v, he, O⟩ := h.uni
      rw [bytE_bad her] at O
      obtain ⟨p, c, hv⟩ := own_form O 0 rfl
      subst hv
      exact ⟨B, p, c, he⟩
    have her0 : (errE xs != 0) = true := bne_iff_ne.2 her
    generalize errE xs = er at *
    clear hn her
    go_enter Try.func8, Try.ntmps8
    go_wp2_with (first
      | (go_at_call 17; with_reducible refine (WK _).mono ?_; rintro e w1 ⟨rfl, b1⟩; have B1 := hid b1; clear b1; have SH' := SH.out w1 (HX.out.below B1.out))
      | (go_at_call 9; with_reducible refine SH'.mono ?_; rintro e w2 ⟨rfl, hw⟩; subst hw; have E1' := E1.out _ (HX.out.below B1.out))
      | (go_at_call 10; with_reducible refine E1'.mono ?_; rintro e w3 ⟨b3, p3, c3, he⟩; subst he; have B3 := hid (B1.out.trans (b3.mono B1.out.size)); clear b3)
      | fail)
    go_ret
    exact ⟨rfl, B3.out⟩
  case pos =>
    obtain ⟨q1, q2, q3, q4⟩ := errE_ok her
    have hin := inV_of q1 hn (by omega)
    have hpos : 0 < (encW xs).length := by
      have := uv_pos xs.length
      simp only [encW, List.length_append]
      omega
    have E1 : Hid (∀ w, Row w p1 xs → Calls Try.prog 10 #[.slice p1 xs.length c1] w fun e w' => Below w.heap.size w w' ∧ ∃ p c, e = .returned (.tuple #[.slice p (encW xs).length c, .int .i64 0]) ∧ OwnB w' w.heap.size (.slice p (encW xs).length c) (encW xs) ∧ Byts w' p (encW xs) ∧ (encW xs).length ≤ c) := fun w r => (rencode_any p1 xs c1 w r hn (by omega)).mono fun e w' h => by
      obtain ⟨B, v, he, O⟩ := h.uni
      rw [q3] at O
      rw [her] at he
      obtain ⟨p, c, hv, r, _, _⟩ := Byts.of_own O
      subst hv
      exact ⟨B, p, c, he, O, r, own_cap O⟩
    have HDC : Hid (∀ j, j < (encW xs).length → decW ((encW xs).take j) = .error 1) := fun j hj => decW_cut hin q2 hj
    have HDM : Hid ((encW xs ++ m).length ≤ 2048 → decW (encW xs ++ m) = if m = [] then .ok xs else .error 6) := fun h => decW_enc m hin h
    generalize encW xs = ex at *
    clear hn her q1 q3 q4 hin
    by_cases hbig : 1900 < ex.length
    · clear hpos
      go_enter Try.func8, Try.ntmps8
      go_wp2_with (first
        | (go_at_call 17; with_reducible refine (WK _).mono ?_; rintro e w1 ⟨rfl, b1⟩; have B1 := hid b1; clear b1; have SH' := SH.out w1 (HX.out.below B1.out))
        | (go_at_call 9; with_reducible refine SH'.mono ?_; rintro e w2 ⟨rfl, hw⟩; subst hw; have E1' := E1.out _ (HX.out.below B1.out))
        | (go_at_call 10; with_reducible refine E1'.mono ?_; rintro e w3 ⟨b3, p3, c3, he, o3, r3, k3⟩; subst he; have B3 := hid (B1.out.trans (b3.mono B1.out.size)); have O3 := hid o3; have R3 := hid r3; clear b3 o3 r3)
        | fail)
      go_ret
      exact ⟨rfl, B3.out⟩
    by_cases hmore : 100 < m.length
    · clear hpos
      go_enter Try.func8, Try.ntmps8
      go_wp2_with (first
        | (go_at_call 17; with_reducible refine (WK _).mono ?_; rintro e w1 ⟨rfl, b1⟩; have B1 := hid b1; clear b1; have SH' := SH.out w1 (HX.out.below B1.out))
        | (go_at_call 9; with_reducible refine SH'.mono ?_; rintro e w2 ⟨rfl, hw⟩; subst hw; have E1' := E1.out _ (HX.out.below B1.out))
        | (go_at_call 10; with_reducible refine E1'.mono ?_; rintro e w3 ⟨b3, p3, c3, he, o3, r3, k3⟩; subst he; have B3 := hid (B1.out.trans (b3.mono B1.out.size)); have O3 := hid o3; have R3 := hid r3; clear b3 o3 r3)
        | fail)
      go_ret
      exact ⟨rfl, B3.out⟩
    have D2 : Hid (∀ p c w j, j < ex.length → ex.length ≤ c → Byts w p ex → Calls Try.prog 15 #[.slice p j c] w fun e w' => Below w.heap.size w w' ∧ e = .returned (.tuple #[.slice none 0 0, .int .i64 1])) := fun p c w j hj h r => by
      have hjl : (ex.take j).length = j := by rw [List.length_take]; omega
      have := decodeW_any p (ex.take j) c w (by omega) (r.take j) (by omega)
      rw [HDC.out j hj, hjl] at this
      exact this
    have D3 : Hid (∀ v w base, OwnB w base v (ex ++ m) → Calls Try.prog 15 #[v] w fun e w' => Below w.heap.size w w' ∧ ∃ v', e = .returned (.tuple #[v', .int .i64 (if m = [] then 0 else 6)])) := fun v w base O => by
      have hl3 : (ex ++ m).length ≤ 2048 := by rw [List.length_append]; omega
      have hdd := HDM.out hl3
      obtain ⟨p, c, hv, r, _, _⟩ := Byts.of_own O
      subst hv
      refine (decodeW_any p (ex ++ m) c w (own_cap O) r (by omega)).mono fun e w' h => ?_
      obtain ⟨B, v', he, _⟩ := h.uni
      refine ⟨B, v', ?_⟩
      rw [he, hdd]
      split <;> rfl
    obtain ⟨j, hj⟩ : ∃ j, j = U % ex.length := ⟨_, rfl⟩
    have hjl : j < ex.length := by rw [hj]; exact Nat.mod_lt _ hpos
    have hmod : (U : Int) % (ex.length : Int) = (j : Int) := by rw [hj]; exact (Int.natCast_emod U ex.length).symm
    have hL0 : ((ex.length : Int) == 0) = false := beq_eq_false_iff_ne.2 (by omega)
    clear hj HDC HDM
    have fin' : ∀ er : Int, (if m = [] then (0 : Int) else 6) = er → ((m.length = 0 ∧ er = 0) ∨ (0 < m.length ∧ er = 6)) := by
      intro er h
      subst h
      by_cases hm0 : m = []
      · left; rw [if_pos hm0, hm0]; exact ⟨rfl, rfl⟩
      · right; rw [if_neg hm0]; exact ⟨List.length_pos_iff.2 hm0, rfl⟩
    generalize (if m = [] then (0 : Int) else 6) = er at *
    have key := fin' er rfl
    clear fin'
    have HMl : Hid (m.length = m.length) := rfl
    have HYY : Hid (∀ w', Below w.heap.size w w' → Byts w' p2 m) := fun w' b => HY.out.below b
    have key2 : (m.length = 0 ∧ er = 0) ∨ (((m.length : Int) == 0) = false ∧ 0 < m.length ∧ er = 6) := by
      rcases key with h | ⟨h1, h2⟩
      · exact Or.inl h
      · exact Or.inr ⟨beq_eq_false_iff_ne.2 (by omega), h1, h2⟩
    clear key HY
    have hmx : ex.length + m.length ≤ 140737488351232 := by omega
    have HL : Hid (ex.length + m.length ≤ 140737488351232) := hmx
    clear hmx
    clear HMl hm hc
    generalize hMM : m.length = M at *
    have HM : Hid (m.length = M) := hMM
    clear hMM
    rcases key2 with ⟨rfl, rfl⟩ | ⟨d0, hm0, rfl⟩
    all_goals
      go_enter Try.func8, Try.ntmps8
      go_wp2_with (first
        | (go_at_call 17; with_reducible refine (WK _).mono ?_; rintro e w1 ⟨rfl, b1⟩; have B1 := hid b1; clear b1; have SH' := SH.out w1 (HX.out.below B1.out))
        | (go_at_call 9; with_reducible refine SH'.mono ?_; rintro e w2 ⟨rfl, hw⟩; subst hw; have E1' := E1.out _ (HX.out.below B1.out))
        | (go_at_call 10; with_reducible refine E1'.mono ?_; rintro e w3 ⟨b3, p3, c3, he, o3, r3, k3⟩; subst he; have B3 := hid (B1.out.trans (b3.mono B1.out.size)); have O3 := hid o3; have R3 := hid r3; clear b3 o3 r3; have D2' := D2.out p3 c3 w3 j hjl k3 R3.out)
        | (go_at_call 15; (first | (with_reducible refine D2'.mono ?_; rintro e w4 ⟨b4, he⟩; subst he; have B4 := hid (B3.out.trans (b4.mono B3.out.size)); have R4 := hid (R3.out.below b4); clear b4 D2') | (with_reducible refine D3'.mono ?_; rintro e w7 ⟨b7, v7, he⟩; subst he; have B7 := hid (B6.out.trans (b7.mono B6.out.size)); clear b7)))
        | (at_builtin; (first | (refine copyY w4 _ _ _ p3 ex c3 rfl rfl rfl rfl rfl (fun h => by subst h; exact absurd R4.out (byts_none hpos)) R4.out (by omega) ?_; intro v5 w5 o5 b5; have O5 := hid o5; have B45 := hid b5; have B5 := hid (B4.out.trans (b5.mono B4.out.size)); clear o5 b5) | (refine appYs w4.heap.size _ _ _ ex m _ p2 c2 HM.out rfl rfl rfl rfl O5.out HnY.out (HYY.out _ B5.out) HL.out B45.out.size ?_; intro v6 w6 o6 b6; have B46 := hid (B45.out.trans b6); have B6 := hid (B4.out.trans (B46.out.mono B4.out.size)); have D3' := D3.out v6 w6 w4.heap.size o6; clear o6 b6)))
        | fail)
      go_ret
      exact ⟨rfl, B7.out⟩
end Go.Proofs.Ytaoeonbhlpnjiaa
