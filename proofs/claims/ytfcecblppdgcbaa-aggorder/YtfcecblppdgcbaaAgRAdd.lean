/- The document's accumulator: a value comes; what it answers. Conditions: numbers within the numbers, texts within the reach. -/
import Derived.Test.YtfcecblppdgcbaaAgRef
import Derived.Deep.RegionLaw
import Derived.Deep.RegionHeld3
namespace Go.Proofs.Ytfcecblppdgcbaa
open Go.RowKit Go.Lib Go.Sort
set_option linter.unusedVariables false
set_option maxRecDepth 20000

theorem stV {ops : Array Oper} {o : Oper} {a : Act} {K : Act → World → Prop} {Q : Exit → Act → World → Prop} {E : Prop} (w0 : World) (base g : Nat) (s x : Operand) (v : Value) (l : List Val) (k n : Int) (t : ByteArray) (hgd : o.guard = none)
    (ho : o.op = .call { callee := .builtin .append, args := #[s, x], argTypes := #[22, 22] }) (hs : a.eval s = v) (hx : a.eval x = .slice (some ⟨g, 0, none⟩) 1 1) (hg : g = w0.heap.size)
    (O : OwnV w0 base v l) (hl : (l.length + 1) * 32 ≤ 140737488351232) (hb : base ≤ w0.heap.size)
    (h : ∀ v' w', OwnV w' base v' (l ++ [⟨k, n, t⟩]) → Below base w0 w' → K (a.put o.dst v') w') :
    if Region.wanted o (yielded ops a.tmps) = true then Oper.wp Try.prog o a (w0.alloc (.cells #[.int .i64 k, .int .i64 n, .string t] 32)) K Q else E := by
  obtain ⟨i0, hi, hz0, hz1, hz2⟩ := info_parts infoV
  subst hg
  refine step_append_lies _ hgd s x 22 ho base 32 i0 _ 3 32 Try.underlying22 hi hz0 hz1 hz2 rfl (by decide) v _ _ hs (O.alloc _) ⟨w0.heap.size, 0, none⟩ 1 1 [.int .i64 k, .int .i64 n, .string t] hx rfl (World.news_of_block (heap_alloc_new w0 _)) (by simp [Value.oneCell']) (by decide) (by unfold maxLen; omega) (by omega) (by simp; omega) _ rfl ?_
  intro g' cap' w3 hown hgrow hat hlt
  rw [cellsV_snoc l ⟨k, n, t⟩] at hown
  have hown' : OwnV w3 base (.slice (some ⟨g', 0, none⟩) (l.length + 1) cap') (l ++ [⟨k, n, t⟩]) := by
    unfold OwnV
    rw [List.length_append]
    exact hown
  exact h _ w3 hown' (((Below.refl base w0).alloc hb _).grown hgrow (by simp; omega) (fun k hk => (O.lt k hk).1))

/-- What becomes of what was taken. -/
def raddE (op : Int) (rows : Bool) (L : List Val) (v : Val) : Int := if v.k = 0 ∧ rows = false then 0 else if op = 2 then (binV 11 (sumL L) v).e else 0
def raddL (op : Int) (rows : Bool) (L : List Val) (v : Val) : List Val := if v.k = 0 ∧ rows = false then L else if op = 2 ∧ (binV 11 (sumL L) v).e ≠ 0 then L else L ++ [v]
abbrev ChR (c base : Nat) (w w' : World) : Prop := Chg (fun k => k = c ∨ base ≤ k) w w'

/-- The append at the end of Add. -/
theorem radd_put {w w1 w2 : World} {c base : Nat} {op : Int} {rows : Bool} {L : List Val} {x : Val} {v' : Value} (R : RAc w1 c base op rows L) (C : ChR c base w w1) (O : OwnV w2 base v' (L ++ [x])) (B : Below base w1 w2) (hw : base ≤ w.heap.size) :
    ChR c base w (w2.setCell ⟨c, 2, none⟩ v') ∧ RAc (w2.setCell ⟨c, 2, none⟩ v') c base op rows (L ++ [x]) := by
  have hc : c < w1.heap.size := cell_lt R.c0
  have k : w2.heap[c]? = w1.heap[c]? := B.block c R.lt
  have c0 : w2.cell? ⟨c, 0, none⟩ = some (.int .i64 op) := (World.cell?_of_block (w := w1) (a := ⟨c, 0, none⟩) k).trans R.c0
  have c1 : w2.cell? ⟨c, 1, none⟩ = some (.bool rows) := (World.cell?_of_block (w := w1) (a := ⟨c, 1, none⟩) k).trans R.c1
  have f2 : w2.frozen? ⟨c, 2, none⟩ = false := (World.frozen?_of_block (w := w1) (a := ⟨c, 2, none⟩) k).trans R.fz
  obtain ⟨v0, c2', _⟩ := R.sl
  have c2 : w2.cell? ⟨c, 2, none⟩ = some v0 := (World.cell?_of_block (w := w1) (a := ⟨c, 2, none⟩) k).trans c2'
  have C2 : ChR c base w w2 := ⟨B.os.trans C.os, B.tape.trans C.tape, B.output.trans C.output, Nat.le_trans C.size B.size, fun j hj hn => (B.block j (by simp only [not_or] at hn; omega)).trans (C.block j hj hn)⟩
  have CS : Chg (· = c) w2 (w2.setCell ⟨c, 2, none⟩ v') := Chg.setCell (F := (· = c)) (Chg.refl _ _) (p := ⟨c, 2, none⟩) (Or.inl rfl) _
  refine ⟨C2.trans CS (fun j _ h => Or.inl h), ⟨?_, ?_, ⟨v', ?_, O.chg CS (fun k h => by rw [h]; exact R.lt)⟩, ?_, R.lt, ?_⟩⟩
  · simp [go_sem, c0]
  · simp [go_sem, c1]
  · simp [go_sem, c2]
  · simp [go_sem, f2]
  · have := R.le; have := B.size; simp [World.setCell]; omega
theorem Box.tri {w : World} {b : Nat} {k n : Int} {s : ByteArray} (h : Box w b ⟨k, n, s⟩) : w.cell? ⟨b, 0, none⟩ = some (.int .i64 k) ∧ w.cell? ⟨b, 1, none⟩ = some (.int .i64 n) ∧ w.cell? ⟨b, 2, none⟩ = some (.string s) := ⟨h.1, h.2.1, h.2.2.1⟩
set_option maxHeartbeats 4000000 in
theorem radd_any (c base : Nat) (op : Int) (rows : Bool) (L : List Val) (v : Val) (w : World) (hR : RAc w c base op rows L) (hn : ∀ x ∈ L, inR x.n ∧ x.s.size ≤ maxLen) (hv : inR v.n ∧ v.s.size ≤ maxLen) (hL : L.length ≤ 1000) (ho : 1 ≤ op ∧ op ≤ 4) :
    Calls Try.prog 14 #[.pointer (some ⟨c, 0, none⟩), v.v] w fun e w' => e = .returned (.int .i64 (raddE op rows L v)) ∧ ChR c base w w' ∧ RAc w' c base op rows (raddL op rows L v) := by
  have B0 := (Below.refl _ w).alloc (Nat.le_refl _) (.cells #[.int .i64 v.k, .int .i64 v.n, .string v.s] 32)
  have R := hR.below B0
  have VA := Box.new w v.k v.n v.s 32
  have hle := hR.le
  by_cases hk : v.k = 0 ∧ rows = false
  · obtain ⟨hk, rfl⟩ := hk
    have h1 : raddE op false L v = 0 := by unfold raddE; rw [if_pos ⟨hk, rfl⟩]
    have h2 : raddL op false L v = L := by unfold raddL; rw [if_pos ⟨hk, rfl⟩]
    rw [h1, h2]
    have c0 := R.c0
    have c1 := R.c1
    have hcl := cell_lt c0
    obtain ⟨vk, vn, vs⟩ := v
    simp only [] at *
    subst hk
    have RR : Hid (ChR c base w (w.alloc (.cells #[.int .i64 0, .int .i64 vn, .string vs] 32)) ∧ RAc (w.alloc (.cells #[.int .i64 0, .int .i64 vn, .string vs] 32)) c base op false L) := ⟨Chg.of_below B0, R⟩
    clear hn hv hR R B0 VA h1 h2
    unfold Val.v
    simp only []
    go_enter Try.func14, Try.ntmps14
    go_wp2
    go_ret
    exact ⟨rfl, RR.out⟩
  · have hg : (v.k = 0 ∧ rows = true) ∨ (v.k == 0) = false := by
      by_cases h0 : v.k = 0
      · cases rows
        · exact absurd ⟨h0, rfl⟩ hk
        · exact Or.inl ⟨h0, rfl⟩
      · exact Or.inr (beq_eq_false_iff_ne.2 h0)
    by_cases h2 : op = 2
    · subst h2
      have hsg := sumL_good L
      have S := hid (fun w1 (b1 : Below w.heap.size w w1) => rsum_any c base 2 rows L w1 (hR.below b1) hn)
      have C := fun w => refBinary_any 11 (sumL L) v w hsg.1 hv.1 (by rw [hsg.2]; exact Nat.zero_le _) hv.2
      have hE : raddE 2 rows L v = (binV 11 (sumL L) v).e := by unfold raddE; rw [if_neg hk, if_pos rfl]
      have hLL : raddL 2 rows L v = if (binV 11 (sumL L) v).e ≠ 0 then L else L ++ [v] := by unfold raddL; rw [if_neg hk]; simp
      rw [hE]
      generalize raddL 2 rows L v = LL at *
      clear hE hk
      generalize binV 11 (sumL L) v = r at *
      generalize sumL L = s at *
      obtain ⟨vk, vn, vs⟩ := v
      obtain ⟨sk, sn, ss⟩ := s
      obtain ⟨⟨rk, rn, rs⟩, re⟩ := r
      simp only [Ans.out_eq] at C
      unfold Val.v at *
      simp only [] at *
      have HLL := hid hLL
      clear hLL
      have HRR := hid hR
      have HC := hid C
      have HB := hid B0
      have HV := hid VA
      clear C hn hv hsg B0 VA hR
      have c0 := R.c0
      have c1 := R.c1
      have hcl := cell_lt c0
      obtain ⟨v0, v1, v2, _⟩ := HV.out.out
      clear R
      rcases hg with ⟨rfl, rfl⟩ | e0
      · go_enter Try.func14, Try.ntmps14
        go_wp2_with fail
        generalize w.alloc _ = W at *
        have hvb := cell_lt HV.out.1
        have hbs := HB.out.size
        have HVD := hid HV.out.drew
        go_region_held3 (fun w' => w'.cell? ⟨w.heap.size, 0, none⟩ = some (.int .i64 0) ∧ w'.cell? ⟨w.heap.size, 1, none⟩ = some (.int .i64 vn) ∧ w'.cell? ⟨w.heap.size, 2, none⟩ = some (.string vs))
          (with_reducible first | exact HV.out.tri | exact HV.out.drew.tri | exact (HV.out.alloc _).drew.tri | exact V2.out.tri | exact (V2.out.alloc _).tri | exact V3.out.tri | exact (V3.out.alloc _).tri | exact (V3.out.put3 (by omega) _ _ _).tri | fail)
          (first
          | (go_at_call 22; (first | refine (S.out _ HB.out.drew).mono ?_ | refine (S.out _ (HB.out.alloc HB.out.size _).drew).mono ?_); rintro e w2 ⟨rfl, b2⟩; (first | have B2 := hid (HB.out.drew.trans (b2.mono HB.out.drew.size)) | have B2 := hid ((HB.out.alloc HB.out.size _).drew.trans (b2.mono (HB.out.alloc HB.out.size _).drew.size))); (first | have V2 := hid (HV.out.drew.below b2) | have V2 := hid ((HV.out.alloc _).drew.below b2)); obtain ⟨v0, v1, v2, fv0, fv1, fv2⟩ := V2.out.out; have hvl := cell_lt v0; (first | have Z2 := hid ((Box.new _ 0 0 ⟨#[]⟩ 32).drew.below b2) | skip))
          | (go_at_call 23; with_reducible refine (HC.out _).mono ?_; rintro e w3 ⟨rfl, b3⟩; (first | have B3 := hid (B2.out.trans (b3.mono B2.out.size)) | have B3 := hid ((B2.out.alloc B2.out.size _).trans (b3.mono (B2.out.alloc B2.out.size _).size))); (first | have V3 := hid (V2.out.below b3) | have V3 := hid ((V2.out.alloc _).below b3)); (first | (have Z3 := hid (Z2.out.below b3); obtain ⟨z0, z1, z2, fz0, fz1, fz2⟩ := Z3.out.out) | (have Z3 := hid ((Box.new _ 0 0 ⟨#[]⟩ 32).below b3); obtain ⟨z0, z1, z2, fz0, fz1, fz2⟩ := Z3.out.out) | skip))
          | fail)
        all_goals
          (first
            | (have _t : Hid (Box w3 w2.heap.size ⟨0, 0, ⟨#[]⟩⟩) := Z3; have B4 := hid (below_put3 (d := w2.heap.size) B3.out B2.out.size (.int .i64 rk) (.int .i64 rn) (.string rs)); have V4 := hid (V3.out.put3 (d := w2.heap.size) (Nat.ne_of_gt hvl) (.int .i64 rk) (.int .i64 rn) (.string rs)); generalize World.setCell (World.setCell (World.setCell w3 _ _) _ _) _ _ = X at *)
            | (have _t : Hid (Box w3 W.heap.size ⟨0, 0, ⟨#[]⟩⟩) := Z3; have B4 := hid (below_put3 (d := W.heap.size) B3.out hbs (.int .i64 rk) (.int .i64 rn) (.string rs)); have V4 := hid (V3.out.put3 (d := W.heap.size) (Nat.ne_of_gt hvb) (.int .i64 rk) (.int .i64 rn) (.string rs)); generalize World.setCell (World.setCell (World.setCell w3 _ _) _ _) _ _ = X at *)
            | (have B4 := hid (B3.out.alloc B3.out.size (.cells #[.int .i64 rk, .int .i64 rn, .string rs] 32)); have V4 := hid (V3.out.alloc (.cells #[.int .i64 rk, .int .i64 rn, .string rs] 32)); generalize World.alloc w3 _ = X at *))
          have R4 := HRR.out.below B4.out
          obtain ⟨v, c2, O⟩ := R4.sl
          obtain ⟨p, kk, rfl, _⟩ := ownV_slice O
          have HR4 := hid R4
          have HO := hid O
          have f2 := R4.fz
          have c0 := R4.c0
          have hcl := cell_lt c0
          have hlt := R4.lt
          have hle4 := hid R4.le
          obtain ⟨v0, v1, v2, fv0, fv1, fv2⟩ := V4.out.out
          have hvl := cell_lt v0
          clear R4 O
          by_cases hre : re = 0
          · have e3 : (re != 0) = false := by simp [hre]
            have hLL := HLL.out
            rw [if_neg (by simp [hre])] at hLL
            subst hLL
            have HRE := hid hre
            clear hre HLL
            go_wp2_with fail
            go_region_law (first
              | (refine stV X.drew base _ _ _ _ L 0 vn vs rfl rfl rfl rfl rfl (HO.out.below ((Below.refl _ _).drew)) (by omega) hle4.out ?_; intro v' w5 O5 B5; obtain ⟨p', c', hv5, _⟩ := ownV_slice O5; generalize (List.length (L ++ _)) = N5 at hv5; subst hv5; have HO5 := hid O5; have HB5 := hid ((Below.refl base X).drew.trans B5); have k5 := B5.block c hlt; have c5 := (World.cell?_of_block (w := X) (a := ⟨c, 2, none⟩) k5).trans c2; have f5 := (World.frozen?_of_block (w := X) (a := ⟨c, 2, none⟩) k5).trans f2; have hc5 := cell_lt c5; clear O5 B5 k5))
            all_goals
              go_wp2
              go_ret
              exact ⟨ret_int HRE.out.symm, radd_put HR4.out (Chg.of_below B4.out) HO5.out HB5.out hle⟩
          · have e3 : (re != 0) = true := bne_iff_ne.2 hre
            have hLL := HLL.out
            rw [if_pos hre] at hLL
            subst hLL
            clear hre HLL
            go_wp2
            go_ret
            exact ⟨rfl, Chg.of_below B4.out, HR4.out⟩
      · go_enter Try.func14, Try.ntmps14
        go_wp2_with fail
        generalize w.alloc _ = W at *
        have hvb := cell_lt HV.out.1
        have hbs := HB.out.size
        have HVD := hid HV.out.drew
        go_region_held3 (fun w' => w'.cell? ⟨w.heap.size, 0, none⟩ = some (.int .i64 vk) ∧ w'.cell? ⟨w.heap.size, 1, none⟩ = some (.int .i64 vn) ∧ w'.cell? ⟨w.heap.size, 2, none⟩ = some (.string vs))
          (with_reducible first | exact HV.out.tri | exact HV.out.drew.tri | exact (HV.out.alloc _).drew.tri | exact V2.out.tri | exact (V2.out.alloc _).tri | exact V3.out.tri | exact (V3.out.alloc _).tri | exact (V3.out.put3 (by omega) _ _ _).tri | fail)
          (first
          | (go_at_call 22; (first | refine (S.out _ HB.out.drew).mono ?_ | refine (S.out _ (HB.out.alloc HB.out.size _).drew).mono ?_); rintro e w2 ⟨rfl, b2⟩; (first | have B2 := hid (HB.out.drew.trans (b2.mono HB.out.drew.size)) | have B2 := hid ((HB.out.alloc HB.out.size _).drew.trans (b2.mono (HB.out.alloc HB.out.size _).drew.size))); (first | have V2 := hid (HV.out.drew.below b2) | have V2 := hid ((HV.out.alloc _).drew.below b2)); obtain ⟨v0, v1, v2, fv0, fv1, fv2⟩ := V2.out.out; have hvl := cell_lt v0; (first | have Z2 := hid ((Box.new _ 0 0 ⟨#[]⟩ 32).drew.below b2) | skip))
          | (go_at_call 23; with_reducible refine (HC.out _).mono ?_; rintro e w3 ⟨rfl, b3⟩; (first | have B3 := hid (B2.out.trans (b3.mono B2.out.size)) | have B3 := hid ((B2.out.alloc B2.out.size _).trans (b3.mono (B2.out.alloc B2.out.size _).size))); (first | have V3 := hid (V2.out.below b3) | have V3 := hid ((V2.out.alloc _).below b3)); (first | (have Z3 := hid (Z2.out.below b3); obtain ⟨z0, z1, z2, fz0, fz1, fz2⟩ := Z3.out.out) | (have Z3 := hid ((Box.new _ 0 0 ⟨#[]⟩ 32).below b3); obtain ⟨z0, z1, z2, fz0, fz1, fz2⟩ := Z3.out.out) | skip))
          | fail)
        all_goals
          (first
            | (have _t : Hid (Box w3 w2.heap.size ⟨0, 0, ⟨#[]⟩⟩) := Z3; have B4 := hid (below_put3 (d := w2.heap.size) B3.out B2.out.size (.int .i64 rk) (.int .i64 rn) (.string rs)); have V4 := hid (V3.out.put3 (d := w2.heap.size) (Nat.ne_of_gt hvl) (.int .i64 rk) (.int .i64 rn) (.string rs)); generalize World.setCell (World.setCell (World.setCell w3 _ _) _ _) _ _ = X at *)
            | (have _t : Hid (Box w3 W.heap.size ⟨0, 0, ⟨#[]⟩⟩) := Z3; have B4 := hid (below_put3 (d := W.heap.size) B3.out hbs (.int .i64 rk) (.int .i64 rn) (.string rs)); have V4 := hid (V3.out.put3 (d := W.heap.size) (Nat.ne_of_gt hvb) (.int .i64 rk) (.int .i64 rn) (.string rs)); generalize World.setCell (World.setCell (World.setCell w3 _ _) _ _) _ _ = X at *)
            | (have B4 := hid (B3.out.alloc B3.out.size (.cells #[.int .i64 rk, .int .i64 rn, .string rs] 32)); have V4 := hid (V3.out.alloc (.cells #[.int .i64 rk, .int .i64 rn, .string rs] 32)); generalize World.alloc w3 _ = X at *))
          have R4 := HRR.out.below B4.out
          obtain ⟨v, c2, O⟩ := R4.sl
          obtain ⟨p, kk, rfl, _⟩ := ownV_slice O
          have HR4 := hid R4
          have HO := hid O
          have f2 := R4.fz
          have c0 := R4.c0
          have hcl := cell_lt c0
          have hlt := R4.lt
          have hle4 := hid R4.le
          obtain ⟨v0, v1, v2, fv0, fv1, fv2⟩ := V4.out.out
          have hvl := cell_lt v0
          clear R4 O
          by_cases hre : re = 0
          · have e3 : (re != 0) = false := by simp [hre]
            have hLL := HLL.out
            rw [if_neg (by simp [hre])] at hLL
            subst hLL
            have HRE := hid hre
            clear hre HLL
            go_wp2_with fail
            go_region_law (first
              | (refine stV X.drew base _ _ _ _ L vk vn vs rfl rfl rfl rfl rfl (HO.out.below ((Below.refl _ _).drew)) (by omega) hle4.out ?_; intro v' w5 O5 B5; obtain ⟨p', c', hv5, _⟩ := ownV_slice O5; generalize (List.length (L ++ _)) = N5 at hv5; subst hv5; have HO5 := hid O5; have HB5 := hid ((Below.refl base X).drew.trans B5); have k5 := B5.block c hlt; have c5 := (World.cell?_of_block (w := X) (a := ⟨c, 2, none⟩) k5).trans c2; have f5 := (World.frozen?_of_block (w := X) (a := ⟨c, 2, none⟩) k5).trans f2; have hc5 := cell_lt c5; clear O5 B5 k5))
            all_goals
              go_wp2
              go_ret
              exact ⟨ret_int HRE.out.symm, radd_put HR4.out (Chg.of_below B4.out) HO5.out HB5.out hle⟩
          · have e3 : (re != 0) = true := bne_iff_ne.2 hre
            have hLL := HLL.out
            rw [if_pos hre] at hLL
            subst hLL
            clear hre HLL
            go_wp2
            go_ret
            exact ⟨rfl, Chg.of_below B4.out, HR4.out⟩
    · have hE : raddE op rows L v = 0 := by unfold raddE; rw [if_neg hk, if_neg h2]
      have hLL : raddL op rows L v = L ++ [v] := by unfold raddL; rw [if_neg hk, if_neg (fun h => h2 h.1)]
      rw [hE, hLL]
      have e2 : (op == 2) = false := beq_eq_false_iff_ne.2 h2
      clear hE hLL hk
      obtain ⟨vk, vn, vs⟩ := v
      unfold Val.v at *
      simp only [] at *
      have HRR := hid hR
      have HB := hid B0
      have HV := hid VA
      obtain ⟨v, c2, O⟩ := R.sl
      obtain ⟨p, kk, rfl, _⟩ := ownV_slice O
      have HR4 := hid R
      have HO := hid O
      have f2 := R.fz
      have c0 := R.c0
      have c1 := R.c1
      have hcl := cell_lt c0
      have hlt := R.lt
      have hle4 := hid R.le
      obtain ⟨v0, v1, v2, fv0, fv1, fv2⟩ := HV.out.out
      have hvl := cell_lt v0
      clear R O hn hv B0 VA hR h2
      rcases hg with ⟨rfl, rfl⟩ | e0
      all_goals
        go_enter Try.func14, Try.ntmps14
        go_wp2_with fail
        generalize w.alloc _ = X at *
        go_region_law (first
          | (refine stV X.drew base _ _ _ _ L _ vn vs rfl rfl rfl rfl rfl (HO.out.below ((Below.refl _ _).drew)) (by omega) hle4.out ?_; intro v' w5 O5 B5; obtain ⟨p', c', hv5, _⟩ := ownV_slice O5; generalize (List.length (L ++ _)) = N5 at hv5; subst hv5; have HO5 := hid O5; have HB5 := hid ((Below.refl base X).drew.trans B5); have k5 := B5.block c hlt; have c5 := (World.cell?_of_block (w := X) (a := ⟨c, 2, none⟩) k5).trans c2; have f5 := (World.frozen?_of_block (w := X) (a := ⟨c, 2, none⟩) k5).trans f2; have hc5 := cell_lt c5; clear O5 B5 k5))
        all_goals
          go_wp2
          go_ret
          exact ⟨rfl, radd_put HR4.out (Chg.of_below HB.out) HO5.out HB5.out hle⟩
end Go.Proofs.Ytfcecblppdgcbaa
