/- What rightCell, leafSize, innerSize, Size, rightLeaf, rightInner and Check of package node do, and the document's Size, cell, fields and Check. Conditions: the node lies within the reach. -/
import Derived.Test.YtilmlegkkgiahaaNdSmall
import Derived.Test.YtilmlegkkgiahaaNdRise
import Derived.BigQuiet
namespace Go.Proofs.Ytilmlegkkgiahaa
open Go.RowKit Go.Lib Go.Sort
set_option linter.unusedVariables false
set_option maxRecDepth 20000

theorem Cls.get {w : World} {F : Nat → Prop} {p : Option Addr} {l : List Cl} (h : Cls w F p l) {i : Nat} (hi : i < l.length) : ∃ g off pk ck pv cv, p = some ⟨g, off, none⟩ ∧ w.cell? ⟨g, off + i * 4, none⟩ = some (.slice pk l[i].key.length ck) ∧ w.cell? ⟨g, off + i * 4 + 1, none⟩ = some (.slice pv l[i].val.length cv) ∧
    w.cell? ⟨g, off + i * 4 + 2, none⟩ = some (.int .i64 l[i].over) ∧ w.cell? ⟨g, off + i * 4 + 3, none⟩ = some (.int .i64 l[i].size) ∧ BV w F (.slice pk l[i].key.length ck) l[i].key ∧ BV w F (.slice pv l[i].val.length cv) l[i].val ∧ i64b l[i].over ∧ i64b l[i].size ∧ F g := by
  obtain ⟨g, off, hp, hF, a, b, c0, c1, c2, c3, h1, h2, _, _, h5, h6⟩ := h.at hi
  obtain ⟨pk, ck, rfl, r⟩ := h1
  obtain ⟨pv, cv, rfl, q⟩ := h2
  exact ⟨g, off, pk, ck, pv, cv, hp, c0, c1, c2, c3, ⟨pk, ck, rfl, r⟩, ⟨pv, cv, rfl, q⟩, h5, h6, hF⟩
theorem Kys.get {w : World} {F : Nat → Prop} {p : Option Addr} {l : List (List UInt8)} (h : Kys w F p l) {i : Nat} (hi : i < l.length) : ∃ g off pk ck, p = some ⟨g, off, none⟩ ∧ w.cell? ⟨g, off + i, none⟩ = some (.slice pk l[i].length ck) ∧ BV w F (.slice pk l[i].length ck) l[i] ∧ F g := by
  obtain ⟨g, off, a, hp, hF, c0, h1⟩ := h.at hi
  obtain ⟨pk, ck, rfl, r⟩ := h1
  exact ⟨g, off, pk, ck, hp, c0, ⟨pk, ck, rfl, r⟩, hF⟩
theorem BV.len {w : World} {F : Nat → Prop} {p : Option Addr} {n c : Nat} {l : List UInt8} (h : BV w F (.slice p n c) l) : l.length ≤ 140737488351232 ∧ l.length ≤ c ∧ n = l.length ∧ Byts w F p l ∧ (p = none → l.length = 0 ∧ c = 0) := by
  obtain ⟨p', c', e, h1, h2, h3, h4⟩ := h
  simp only [Value.slice.injEq] at e
  obtain ⟨rfl, rfl, rfl⟩ := e
  exact ⟨h4, h2, rfl, h1, h3⟩
theorem conv_reg {w : World} {F : Nat → Prop} {v : Value} {l : List UInt8} (h : BV w F v l) (d : Nat) (os : Array Obj) : (convert 31 9 v).run Try.prog (grow (redrawn w d) os) = .ok (.string ⟨l.toArray⟩) (grow (redrawn w d) os) := (h.below (below_regrown w d os)).conv


set_option maxHeartbeats 2000000 in
theorem rightCell_any (pk pv : Option Addr) (ck cv : Nat) (c : Cl) (w : World) (hk : c.key.length ≤ 140737488351232) (hv : c.val.length ≤ 140737488351232) :
    Calls Try.prog 49 #[.agg #[.slice pk c.key.length ck, .slice pv c.val.length cv, .int .i64 c.over, .int .i64 c.size]] w fun e w' => e = .returned (.bool c.ok) ∧ Below w.heap.size w w' := by
  have HQ : Hid (c.ok = (decide (c.key.length ≤ 128) && (if c.over = 0 then decide (c.val.length ≤ 64) && decide (c.size = (c.val.length : Int)) else isPage c.over && (decide (c.val.length = 0) && (decide (64 < c.size) && decide (c.size ≤ 2048)))))) := by
    show _ = _
    unfold Cl.ok
    have e : c.val.isEmpty = decide (c.val.length = 0) := by cases c.val <;> simp
    rw [e]
  have P := hid (fun w => page_any c.over w)
  have Q := hid (fun w => inline_any c.size w)
  generalize c.ok = q at *
  generalize c.key.length = K at *
  generalize c.val.length = V at *
  generalize c.over = O at *
  generalize c.size = S at *
  by_cases h1 : K ≤ 128
  · by_cases h0 : O = 0
    · subst h0
      by_cases h2 : S = (V : Int)
      · subst h2
        by_cases h3 : V ≤ 64
        · have hq : inl (V : Int) = true := by unfold inl; simp; omega
          rw [hq] at Q
          obtain rfl : q = true := by rw [HQ.out]; simp [*]; try omega
          clear HQ
          go_enter Try.func49, Try.ntmps49
          go_wp2_with (first | (go_at_call 51; with_reducible refine (P.out _).mono ?_; rintro e w3 ⟨rfl, hw⟩; subst hw) | (go_at_call 61; with_reducible refine (Q.out _).mono ?_; rintro e w3 ⟨rfl, hw⟩; subst hw) | fail)
          go_ret
          exact ⟨rfl, alloc_below _ _⟩
        · have hq : inl (V : Int) = false := by unfold inl; simp; omega
          rw [hq] at Q
          obtain rfl : q = false := by rw [HQ.out]; simp [*]; try omega
          clear HQ
          go_enter Try.func49, Try.ntmps49
          go_wp2_with (first | (go_at_call 51; with_reducible refine (P.out _).mono ?_; rintro e w3 ⟨rfl, hw⟩; subst hw) | (go_at_call 61; with_reducible refine (Q.out _).mono ?_; rintro e w3 ⟨rfl, hw⟩; subst hw) | fail)
          go_ret
          exact ⟨rfl, alloc_below _ _⟩
      · have h2b : (S == (V : Int)) = false := beq_eq_false_iff_ne.2 h2
        obtain rfl : q = false := by rw [HQ.out]; simp [*]; try omega
        clear HQ
        go_enter Try.func49, Try.ntmps49
        go_wp2_with (first | (go_at_call 51; with_reducible refine (P.out _).mono ?_; rintro e w3 ⟨rfl, hw⟩; subst hw) | (go_at_call 61; with_reducible refine (Q.out _).mono ?_; rintro e w3 ⟨rfl, hw⟩; subst hw) | fail)
        go_ret
        exact ⟨rfl, alloc_below _ _⟩
    · have h0b : (O == 0) = false := beq_eq_false_iff_ne.2 h0
      cases hp : isPage O
      · rw [hp] at P
        obtain rfl : q = false := by rw [HQ.out]; simp [*]; try omega
        clear HQ
        go_enter Try.func49, Try.ntmps49
        go_wp2_with (first | (go_at_call 51; with_reducible refine (P.out _).mono ?_; rintro e w3 ⟨rfl, hw⟩; subst hw) | (go_at_call 61; with_reducible refine (Q.out _).mono ?_; rintro e w3 ⟨rfl, hw⟩; subst hw) | fail)
        go_ret
        exact ⟨rfl, alloc_below _ _⟩
      · rw [hp] at P
        by_cases h2 : V = 0
        · subst h2
          by_cases h3 : 64 < S
          · skip
            have hq : inl S = false := by unfold inl; simp; omega
            rw [hq] at Q
            by_cases h4 : S ≤ 2048
            · skip
              obtain rfl : q = true := by rw [HQ.out]; simp [*]; try omega
              clear HQ
              go_enter Try.func49, Try.ntmps49
              go_wp2_with (first | (go_at_call 51; with_reducible refine (P.out _).mono ?_; rintro e w3 ⟨rfl, hw⟩; subst hw) | (go_at_call 61; with_reducible refine (Q.out _).mono ?_; rintro e w3 ⟨rfl, hw⟩; subst hw) | fail)
              go_ret
              exact ⟨rfl, alloc_below _ _⟩
            · have h4d : decide (S ≤ 2048) = false := decide_eq_false h4
              obtain rfl : q = false := by rw [HQ.out]; simp [*]; try omega
              clear HQ
              go_enter Try.func49, Try.ntmps49
              go_wp2_with (first | (go_at_call 51; with_reducible refine (P.out _).mono ?_; rintro e w3 ⟨rfl, hw⟩; subst hw) | (go_at_call 61; with_reducible refine (Q.out _).mono ?_; rintro e w3 ⟨rfl, hw⟩; subst hw) | fail)
              go_ret
              exact ⟨rfl, alloc_below _ _⟩
          · skip
            have hq : inl S = true := by unfold inl; simp; omega
            rw [hq] at Q
            obtain rfl : q = false := by rw [HQ.out]; simp [*]; try omega
            clear HQ
            go_enter Try.func49, Try.ntmps49
            go_wp2_with (first | (go_at_call 51; with_reducible refine (P.out _).mono ?_; rintro e w3 ⟨rfl, hw⟩; subst hw) | (go_at_call 61; with_reducible refine (Q.out _).mono ?_; rintro e w3 ⟨rfl, hw⟩; subst hw) | fail)
            go_ret
            exact ⟨rfl, alloc_below _ _⟩
        · have h2b : ((V : Int) == 0) = false := beq_eq_false_iff_ne.2 (by omega)
          obtain rfl : q = false := by rw [HQ.out]; simp [*]; try omega
          clear HQ
          go_enter Try.func49, Try.ntmps49
          go_wp2_with (first | (go_at_call 51; with_reducible refine (P.out _).mono ?_; rintro e w3 ⟨rfl, hw⟩; subst hw) | (go_at_call 61; with_reducible refine (Q.out _).mono ?_; rintro e w3 ⟨rfl, hw⟩; subst hw) | fail)
          go_ret
          exact ⟨rfl, alloc_below _ _⟩
  · skip
    obtain rfl : q = false := by rw [HQ.out]; simp [*]; try omega
    clear HQ
    go_enter Try.func49, Try.ntmps49
    go_wp2_with (first | (go_at_call 51; with_reducible refine (P.out _).mono ?_; rintro e w3 ⟨rfl, hw⟩; subst hw) | (go_at_call 61; with_reducible refine (Q.out _).mono ?_; rintro e w3 ⟨rfl, hw⟩; subst hw) | fail)
    go_ret
    exact ⟨rfl, alloc_below _ _⟩

set_option maxHeartbeats 2000000 in
theorem rcell_any (pk pv : Option Addr) (ck cv : Nat) (c : Cl) (w : World) (hk : c.key.length ≤ 140737488351232) (hv : c.val.length ≤ 140737488351232) :
    Calls Try.prog 52 #[.agg #[.slice pk c.key.length ck, .slice pv c.val.length cv, .int .i64 c.over, .int .i64 c.size]] w fun e w' => e = .returned (.bool c.ok) ∧ Below w.heap.size w w' := by
  have HQ : Hid (c.ok = (decide (c.key.length ≤ 128) && (if c.over = 0 then decide (c.val.length ≤ 64) && decide (c.size = (c.val.length : Int)) else isPage c.over && (decide (c.val.length = 0) && (decide (64 < c.size) && decide (c.size ≤ 2048)))))) := by
    show _ = _
    unfold Cl.ok
    have e : c.val.isEmpty = decide (c.val.length = 0) := by cases c.val <;> simp
    rw [e]
  have P := hid (fun w => rpage_any c.over w)
  generalize c.ok = q at *
  generalize c.key.length = K at *
  generalize c.val.length = V at *
  generalize c.over = O at *
  generalize c.size = S at *
  by_cases h1 : K ≤ 128
  · by_cases h0 : O = 0
    · subst h0
      by_cases h2 : S = (V : Int)
      · subst h2
        by_cases h3 : V ≤ 64
        · skip
          obtain rfl : q = true := by rw [HQ.out]; simp [*]; try omega
          clear HQ
          go_enter Try.func52, Try.ntmps52
          go_wp2_with (first | (go_at_call 47; with_reducible refine (P.out _).mono ?_; rintro e w3 ⟨rfl, hw⟩; subst hw) | fail)
          go_ret
          exact ⟨rfl, alloc_below _ _⟩
        · skip
          obtain rfl : q = false := by rw [HQ.out]; simp [*]; try omega
          clear HQ
          go_enter Try.func52, Try.ntmps52
          go_wp2_with (first | (go_at_call 47; with_reducible refine (P.out _).mono ?_; rintro e w3 ⟨rfl, hw⟩; subst hw) | fail)
          go_ret
          exact ⟨rfl, alloc_below _ _⟩
      · have h2b : (S == (V : Int)) = false := beq_eq_false_iff_ne.2 h2
        by_cases h3 : V ≤ 64
        · skip
          obtain rfl : q = false := by rw [HQ.out]; simp [*]; try omega
          clear HQ
          go_enter Try.func52, Try.ntmps52
          go_wp2_with (first | (go_at_call 47; with_reducible refine (P.out _).mono ?_; rintro e w3 ⟨rfl, hw⟩; subst hw) | fail)
          go_ret
          exact ⟨rfl, alloc_below _ _⟩
        · skip
          obtain rfl : q = false := by rw [HQ.out]; simp [*]; try omega
          clear HQ
          go_enter Try.func52, Try.ntmps52
          go_wp2_with (first | (go_at_call 47; with_reducible refine (P.out _).mono ?_; rintro e w3 ⟨rfl, hw⟩; subst hw) | fail)
          go_ret
          exact ⟨rfl, alloc_below _ _⟩
    · have h0b : (O == 0) = false := beq_eq_false_iff_ne.2 h0
      cases hp : isPage O
      · rw [hp] at P
        obtain rfl : q = false := by rw [HQ.out]; simp [*]; try omega
        clear HQ
        go_enter Try.func52, Try.ntmps52
        go_wp2_with (first | (go_at_call 47; with_reducible refine (P.out _).mono ?_; rintro e w3 ⟨rfl, hw⟩; subst hw) | fail)
        go_ret
        exact ⟨rfl, alloc_below _ _⟩
      · rw [hp] at P
        by_cases h2 : V = 0
        · subst h2
          by_cases h3 : 64 < S
          · skip
            by_cases h4 : S ≤ 2048
            · skip
              obtain rfl : q = true := by rw [HQ.out]; simp [*]; try omega
              clear HQ
              go_enter Try.func52, Try.ntmps52
              go_wp2_with (first | (go_at_call 47; with_reducible refine (P.out _).mono ?_; rintro e w3 ⟨rfl, hw⟩; subst hw) | fail)
              go_ret
              exact ⟨rfl, alloc_below _ _⟩
            · have h4d : decide (S ≤ 2048) = false := decide_eq_false h4
              obtain rfl : q = false := by rw [HQ.out]; simp [*]; try omega
              clear HQ
              go_enter Try.func52, Try.ntmps52
              go_wp2_with (first | (go_at_call 47; with_reducible refine (P.out _).mono ?_; rintro e w3 ⟨rfl, hw⟩; subst hw) | fail)
              go_ret
              exact ⟨rfl, alloc_below _ _⟩
          · skip
            obtain rfl : q = false := by rw [HQ.out]; simp [*]; try omega
            clear HQ
            go_enter Try.func52, Try.ntmps52
            go_wp2_with (first | (go_at_call 47; with_reducible refine (P.out _).mono ?_; rintro e w3 ⟨rfl, hw⟩; subst hw) | fail)
            go_ret
            exact ⟨rfl, alloc_below _ _⟩
        · have h2b : ((V : Int) == 0) = false := beq_eq_false_iff_ne.2 (by omega)
          obtain rfl : q = false := by rw [HQ.out]; simp [*]; try omega
          clear HQ
          go_enter Try.func52, Try.ntmps52
          go_wp2_with (first | (go_at_call 47; with_reducible refine (P.out _).mono ?_; rintro e w3 ⟨rfl, hw⟩; subst hw) | fail)
          go_ret
          exact ⟨rfl, alloc_below _ _⟩
  · skip
    obtain rfl : q = false := by rw [HQ.out]; simp [*]; try omega
    clear HQ
    go_enter Try.func52, Try.ntmps52
    go_wp2_with (first | (go_at_call 47; with_reducible refine (P.out _).mono ?_; rintro e w3 ⟨rfl, hw⟩; subst hw) | fail)
    go_ret
    exact ⟨rfl, alloc_below _ _⟩
end Go.Proofs.Ytilmlegkkgiahaa
