/- The law AggPlays returns true and writes nothing that was there. Conditions: the numbers are within the numbers, the texts within the reach. -/
import Derived.Test.YtfcecblppdgcbaaAgRowsWalk
import Derived.Test.YtfcecblppdgcbaaAgRVal
import Derived.Deep.RegionHeld3
namespace Go.Proofs.Ytfcecblppdgcbaa
open Go.RowKit Go.Lib Go.Sort
set_option linter.unusedVariables false
set_option maxRecDepth 20000

/-! ### Both sides say the same -/
theorem rightV_null {v : Val} (h : rightV v = true) (hk : v.k = 0) : v = nullV := by
  unfold rightV checkV at h
  rw [if_neg (by omega)] at h
  by_cases hr : v.right = true
  · obtain ⟨k, n, ⟨⟨s⟩⟩⟩ := v
    simp only [] at hk
    subst hk
    unfold Val.right at hr
    simp at hr
    obtain ⟨rfl, rfl⟩ := hr
    rfl
  · rw [if_neg hr] at h
    exact absurd h (by decide)
/-- What was gathered is kept: of a list whose every value was taken. -/
def Kept (op : Int) (L : List Val) : Prop := op = 2 → L ≠ [] → (sumL L).k = 2
def NoNull (op : Int) (L : List Val) : Prop := op ≠ 1 → ∀ x ∈ L, x.k ≠ 0
theorem fold_snoc (op : Int) (L : List Val) (v : Val) (h : L ≠ []) : bestL op (L ++ [v]) = bestV op (bestL op L) v := by
  cases L with
  | nil => exact absurd rfl h
  | cons x r => simp [bestL, List.foldl_append]
theorem bin11_k {a b : Val} (hb : b.k ≠ 0) (ha : a.k = 2) (h : (binV 11 a b).e = 0) : (binV 11 a b).v.k = 2 := by
  unfold binV at *
  rw [if_neg (by omega)] at *
  split at h
  · exact absurd h (by decide)
  · rename_i hf
    rw [if_neg hf, if_neg (by omega), if_neg (by omega), if_neg (by omega), if_neg (by omega), if_neg (by omega)] at *
    unfold sumV over at *
    rw [if_pos rfl] at *
    split at h
    · rename_i hi
      rw [if_pos hi]; rfl
    · exact absurd h (by decide)
theorem sum_k {L : List Val} (h : L ≠ [] → (sumL L).k = 2) : (sumL L).k = 2 := by
  by_cases hL : L = []
  · subst hL; rfl
  · exact h hL
theorem both_rest {op : Int} {rows : Bool} {L : List Val} {v : Val} (ho : 1 ≤ op ∧ op ≤ 4) (o1 : op ≠ 1) (o2 : op ≠ 2) (hs : ¬ (v.k = 0 ∧ rows = false)) (hv : op ≠ 1 → v.k ≠ 0) (hN : NoNull op L) (hnn : ∀ {M : List Val}, M = L ++ [v] → NoNull op M) :
    takV op (gatV op L) v = ⟨gatV op (raddL op rows L v), raddE op rows L v⟩ ∧ Kept op (raddL op rows L v) ∧ NoNull op (raddL op rows L v) := by
  have h1 : raddL op rows L v = L ++ [v] := by unfold raddL; rw [if_neg hs, if_neg (fun h => o2 h.1)]
  have h2 : raddE op rows L v = 0 := by unfold raddE; rw [if_neg hs, if_neg o2]
  rw [h1, h2]
  refine ⟨?_, fun h => absurd h o2, hnn rfl⟩
  have hg2 : gatV op (L ++ [v]) = bestL op (L ++ [v]) := by unfold gatV; rw [if_neg o1, if_neg (by simp), if_neg o2]
  by_cases hL : L = []
  · subst hL
    have hg : gatV op [] = nullV := by unfold gatV; rw [if_neg o1, if_pos rfl]
    rw [hg, hg2]
    unfold takV
    rw [if_neg o1, if_neg o2]
    simp [nullV, bestL]
  · have hbk := hN o1 _ (best_or op L hL)
    have hg : gatV op L = bestL op L := by unfold gatV; rw [if_neg o1, if_neg hL, if_neg o2]
    rw [hg, hg2, fold_snoc op L v hL]
    unfold takV bestV
    rw [if_neg o1, if_neg o2]
    by_cases o3 : op = 3
    · subst o3
      rw [if_pos rfl]
      simp [hbk]
    · have o4 : op = 4 := by omega
      subst o4
      rw [if_neg (by decide)]
      simp [hbk]
theorem both_step {op : Int} {rows : Bool} {L : List Val} {v : Val} (ho : 1 ≤ op ∧ op ≤ 4) (hr : rows = true → op = 1) (hK : Kept op L) (hN : NoNull op L) :
    addV op rows (gatV op L) v = ⟨gatV op (raddL op rows L v), raddE op rows L v⟩ ∧ Kept op (raddL op rows L v) ∧ NoNull op (raddL op rows L v) := by
  by_cases hs : v.k = 0 ∧ rows = false
  · have h1 : raddL op rows L v = L := by unfold raddL; rw [if_pos hs]
    have h2 : raddE op rows L v = 0 := by unfold raddE; rw [if_pos hs]
    have h3 : addV op rows (gatV op L) v = ⟨gatV op L, 0⟩ := by unfold addV; rw [if_pos hs]
    rw [h1, h2, h3]
    exact ⟨rfl, hK, hN⟩
  have h3 : addV op rows (gatV op L) v = takV op (gatV op L) v := by unfold addV; rw [if_neg hs]
  have hv : op ≠ 1 → v.k ≠ 0 := fun h1 h0 => hs ⟨h0, by cases rows; rfl; exact absurd (hr rfl) h1⟩
  have hnn : ∀ {M : List Val}, M = L ++ [v] → NoNull op M := by
    rintro M rfl h1 x hx
    rcases List.mem_append.1 hx with hx | hx
    · exact hN h1 x hx
    · rw [List.mem_singleton.1 hx]; exact hv h1
  rw [h3]
  obtain rfl | rfl | rfl | rfl : op = 1 ∨ op = 2 ∨ op = 3 ∨ op = 4 := by omega
  · have h1 : raddL 1 rows L v = L ++ [v] := by unfold raddL; rw [if_neg hs, if_neg (by omega)]
    have h2 : raddE 1 rows L v = 0 := by unfold raddE; rw [if_neg hs, if_neg (by omega)]
    rw [h1, h2]
    refine ⟨?_, fun h => absurd h (by decide), hnn rfl⟩
    show (⟨numV ((L.length : Int) + 1), 0⟩ : Ans) = ⟨numV ((L ++ [v]).length : Nat), 0⟩
    simp
  · have hk := sum_k (hK rfl)
    have hx : (if (gatV 2 L).k = 0 then numV 0 else gatV 2 L) = sumL L := by
      have hg : gatV 2 L = if L = [] then nullV else sumL L := by unfold gatV; rw [if_neg (by decide)]; simp
      rw [hg]
      by_cases hL : L = []
      · subst hL; simp [nullV, sumL]
      · rw [if_neg hL, if_neg (by omega)]
    have ht : takV 2 (gatV 2 L) v = if (binV 11 (sumL L) v).e = 0 then binV 11 (sumL L) v else ⟨gatV 2 L, (binV 11 (sumL L) v).e⟩ := by
      unfold takV
      rw [if_neg (by decide), if_pos rfl, hx]
    have h2 : raddE 2 rows L v = (binV 11 (sumL L) v).e := by unfold raddE; rw [if_neg hs, if_pos rfl]
    rw [ht, h2]
    by_cases he : (binV 11 (sumL L) v).e = 0
    · have h1 : raddL 2 rows L v = L ++ [v] := by unfold raddL; rw [if_neg hs, if_neg (fun h => h.2 he)]
      rw [h1, if_pos he]
      have hsn := sumL_snoc L v
      have hkk := bin11_k (hv (by decide)) hk he
      refine ⟨?_, fun _ _ => by rw [hsn]; exact hkk, hnn rfl⟩
      have hg : gatV 2 (L ++ [v]) = sumL (L ++ [v]) := by unfold gatV; rw [if_neg (by decide), if_neg (by simp), if_pos rfl]
      rw [hg, hsn]
    · have h1 : raddL 2 rows L v = L := by unfold raddL; rw [if_neg hs, if_pos ⟨rfl, he⟩]
      rw [h1, if_neg he]
      exact ⟨rfl, hK, hN⟩
  all_goals
    refine both_rest ho (by decide) (by decide) hs hv hN hnn
theorem gat_n1 (L : List Val) : (gatV 1 L).n = L.length := rfl
theorem gat_2 (L : List Val) : inR (gatV 2 L).n ∧ (gatV 2 L).s.size = 0 := by
  have hg : gatV 2 L = if L = [] then nullV else sumL L := by unfold gatV; rw [if_neg (by decide)]; simp
  rw [hg]
  split
  · exact ⟨by show inR 0; decide, rfl⟩
  · exact sumL_good L
theorem raddL_mem {op : Int} {rows : Bool} {L : List Val} {v x : Val} (h : x ∈ raddL op rows L v) : x ∈ L ∨ x = v := by
  unfold raddL at h
  split at h
  · exact Or.inl h
  · split at h
    · exact Or.inl h
    · rcases List.mem_append.1 h with h | h
      · exact Or.inl h
      · exact Or.inr (List.mem_singleton.1 h)
theorem raddL_len (op : Int) (rows : Bool) (L : List Val) (v : Val) : (raddL op rows L v).length ≤ L.length + 1 := by
  unfold raddL
  split
  · omega
  · split
    · omega
    · simp
theorem gat_nil (op : Int) : gatV op [] = zeroV op := by
  unfold gatV zeroV
  split
  · rfl
  · rw [if_pos rfl]

theorem below_chR {B cc base : Nat} {a w w' : World} (h : Below B a w) (C : ChR cc base w w') (h1 : B ≤ cc) (h2 : B ≤ base) (hB : B ≤ w.heap.size) : Below B a w' :=
  h.trans (C.below (fun k hk => by rcases hk with hk | hk <;> omega) hB)
set_option maxHeartbeats 4000000 in
theorem plays_bad (op : Int) (rows : Bool) (xs : List Val) (p : Option Addr) (c : Nat) (w : World) (hbad : op < 1 ∨ 4 < op ∨ (rows = true ∧ op ≠ 1)) :
    Calls Try.prog 3 #[.int .i64 op, .bool rows, .slice p xs.length c] w fun e w' => e = .returned (.bool true) ∧ Below w.heap.size w w' := by
  have N := fun w => new_any op rows w
  have M := fun w => rnew_any op rows w
  have hb1 : badNew op rows := hbad
  go_enter Try.func3, Try.ntmps3
  go_wp2_with (first
    | (go_at_call 8; with_reducible refine (N _).mono ?_; rintro e w1 ⟨E1, b1⟩; unfold newEnd at E1; obtain rfl := E1.1 hb1)
    | (go_at_call 9; with_reducible refine (M _).mono ?_; rintro e w2 ⟨E2, b2⟩; unfold rnewEnd at E2; obtain rfl := E2.1 hbad)
    | fail)
  go_ret
  exact ⟨rfl, below2 b1 b2⟩
set_option maxHeartbeats 4000000 in
theorem plays_walk (op : Int) (rows : Bool) (xs : List Val) (p : Option Addr) (c : Nat) (w : World) (hA : xs.length ≤ maxLen) (rA : Row w p xs) (hi : ∀ x ∈ xs, inR x.n) (hy : ∀ x ∈ xs, x.s.size ≤ 140737488351232) :
    Calls Try.prog 3 #[.int .i64 op, .bool rows, .slice p xs.length c] w fun e w' => e = .returned (.bool true) ∧ Below w.heap.size w w' := by
  by_cases hbad : op < 1 ∨ 4 < op ∨ (rows = true ∧ op ≠ 1)
  · exact plays_bad op rows xs p c w hbad
  have ho : 1 ≤ op ∧ op ≤ 4 := by omega
  have hro : rows = true → op = 1 := fun h => Classical.byContradiction fun h1 => hbad (Or.inr (Or.inr ⟨h, h1⟩))
  have hb1 : ¬ badNew op rows := hbad
  have N := fun w => new_any op rows w
  have M := fun w => rnew_any op rows w
  have R := fun w r => right_any xs p c w hA r
  have rH := hid rA
  have hneq := run_neqv
  have HI := hid hi
  have HY := hid hy
  unfold maxLen at hA
  cases hr : (xs.all rightV && decide (xs.length ≤ 300))
  · rw [hr] at R
    clear rA hr hi hy
    go_enter Try.func3, Try.ntmps3
    go_wp2_with (first
      | (go_at_call 8; with_reducible refine (N _).mono ?_; rintro e w1 ⟨E1, b1⟩; unfold newEnd at E1; obtain ⟨b, g, he, hbb, hgg, P1⟩ := E1.2 hb1; subst he; clear E1 P1)
      | (go_at_call 9; with_reducible refine (M _).mono ?_; rintro e w2 ⟨E2, b2⟩; unfold rnewEnd at E2; obtain ⟨cc, he, hcc, hcl, R2⟩ := E2.2 hbad; subst he; clear E2 R2)
      | (go_at_call 10; with_reducible refine (R _ (rH.out.below (below2 b1 b2))).mono ?_; rintro e w3 ⟨rfl, b3⟩)
      | fail)
    go_ret
    exact ⟨rfl, below2 (below2 b1 b2) b3⟩
  · rw [hr] at R
    have hlen : xs.length ≤ 300 := by
      simp only [Bool.and_eq_true, decide_eq_true_eq] at hr
      exact hr.2
    clear rA hr hi hy
    have hz := gat_nil op
    obtain ⟨z, hzz⟩ : ∃ z, z = zeroV op := ⟨_, rfl⟩
    have V := fun b g w1 P1 => value_any b g op rows z w1 P1 ho
    have RV := fun cc base w1 R1 => rvalue_any cc base op rows [] w1 R1 (by intro x hx; cases hx) ho
    rw [hz, ← hzz] at RV
    have HZ := hid hzz
    clear hz hzz
    obtain ⟨z1, z2, z3⟩ := z
    unfold Val.v at V RV
    simp only [] at V RV
    have q := eqv_same z1 z2 z3
    go_enter Try.func3, Try.ntmps3
    go_wp2_with (first
      | (go_at_call 8; with_reducible refine (N _).mono ?_; rintro e w1 ⟨E1, b1⟩; unfold newEnd at E1; obtain ⟨b, g, he, hbb, hgg, P1⟩ := E1.2 hb1; subst he; have HP1 := hid P1; clear E1 P1)
      | (go_at_call 9; with_reducible refine (M _).mono ?_; rintro e w2 ⟨E2, b2⟩; unfold rnewEnd at E2; obtain ⟨cc, he, hcc, hcl, R2⟩ := E2.2 hbad; subst he; have HP2 := hid (HP1.out.below b2); have HR2 := hid (R2 w2.heap.size hcl (Nat.le_refl _)); have hbl := HP1.out.blt; have hgl := HP1.out.gat.lt; clear E2 R2)
      | (go_at_call 10; with_reducible refine (R _ (rH.out.below (below2 b1 b2))).mono ?_; rintro e w3 ⟨rfl, b3⟩; have HP3 := hid (HP2.out.below b3); have HR3 := hid (HR2.out.below b3))
      | (go_at_call 11; with_reducible refine (V b g _ (by rw [HZ.out]; exact HP3.out)).mono ?_; rintro e w4 ⟨rfl, b4⟩; have HP4 := hid (HP3.out.below b4); have HR4 := hid (HR3.out.below b4))
      | (go_at_call 12; with_reducible refine (RV cc w2.heap.size _ HR4.out).mono ?_; rintro e w5 ⟨rfl, b5⟩; have HP5 := hid (HP4.out.below b5); have HR5 := hid (HR4.out.below b5))
      | fail)
    have HB5 := hid (below2 (below2 (below2 (below2 b1 b2) b3) b4) b5)
    have hwb : w.heap.size ≤ g := hgg
    have hwc : w.heap.size ≤ cc := Nat.le_trans b1.size hcc
    have hgb : g < w2.heap.size := Nat.lt_of_lt_of_le hgl b2.size
    have hbb2 : b < w2.heap.size := Nat.lt_of_lt_of_le hbl b2.size
    have hcb : cc ≠ b := by omega
    have hcg : cc ≠ g := by omega
    have hw2 : w.heap.size ≤ w2.heap.size := Nat.le_trans b1.size b2.size
    clear b1 b2 b3 b4 b5 HP1 HP2 HP3 HP4 HR2 HR3 HR4 V RV N M R hbl hgl hcc hcl q hbb hgg
    generalize w2.heap.size = base at *
    go_loopw [11] (fun i wr => ∃ (k : Nat) (L : List Val), k ≤ xs.length ∧ i = .int .i64 k ∧ PAc wr b g op rows (gatV op L) ∧ RAc wr cc base op rows L ∧ Kept op L ∧ NoNull op L ∧ L.length ≤ k ∧ (∀ x ∈ L, x ∈ xs) ∧ Below w.heap.size w wr) (fun i _ => xs.length - (intOf i).toNat)
    case atStart => exact ⟨0, [], Nat.zero_le _, rfl, by rw [gat_nil]; exact HP5.out, HR5.out, fun _ h => absurd rfl h, (fun _ x hx => by cases hx), Nat.le_refl _, (fun x hx => by cases hx), HB5.out⟩
    case round =>
      obtain ⟨k, L, hkx, rfl, P, Q, hK, hN, hLk, hLx, hb⟩ := hrel
      have HB := hid hb
      by_cases hlt : k < xs.length
      · obtain ⟨b2, o2, hpp, d10, d11, d12⟩ := rH.out.at hlt
        obtain ⟨s1, s2, s3⟩ := both_step (v := xs[k]) ho hro hK hN
        have hxk := HI.out _ (List.getElem_mem hlt)
        have hyk := HY.out _ (List.getElem_mem hlt)
        have hLn : ∀ x ∈ L, inR x.n ∧ x.s.size ≤ maxLen := fun x hx => ⟨HI.out x (hLx x hx), by have := HY.out x (hLx x hx); unfold maxLen; omega⟩
        have A := hid (fun w1 (P1 : PAc w1 b g op rows (gatV op L)) => add_any b g op rows (gatV op L) xs[k] w1 P1 ho (by rintro rfl; rw [gat_n1]; omega) (by rintro rfl; exact ⟨(gat_2 L).1, hxk, by rw [(gat_2 L).2]; unfold maxLen; omega⟩))
        have RA := hid (fun w1 (R1 : RAc w1 cc base op rows L) => radd_any cc base op rows L xs[k] w1 R1 hLn ⟨hxk, by unfold maxLen; omega⟩ (by omega) ho)
        rw [s1] at A
        have hLm : ∀ x ∈ raddL op rows L xs[k], x ∈ xs := fun x hx => by
          rcases raddL_mem hx with h | h
          · exact hLx x h
          · rw [h]; exact List.getElem_mem hlt
        have hLl : (raddL op rows L xs[k]).length ≤ k + 1 := by have := raddL_len op rows L xs[k]; omega
        have HS := hid (And.intro s2 (And.intro s3 (And.intro hLl hLm)))
        have hLn2 : ∀ x ∈ raddL op rows L xs[k], inR x.n ∧ x.s.size ≤ maxLen := fun x hx => ⟨HI.out x (hLm x hx), by have := HY.out x (hLm x hx); unfold maxLen; omega⟩
        generalize raddL op rows L xs[k] = L2 at *
        generalize raddE op rows L xs[k] = er at *
        have V := hid (fun w1 (P1 : PAc w1 b g op rows (gatV op L2)) => value_any b g op rows (gatV op L2) w1 P1 ho)
        have RV := hid (fun w1 (R1 : RAc w1 cc base op rows L2) => rvalue_any cc base op rows L2 w1 R1 hLn2 ho)
        have HP := hid P
        have HQ := hid Q
        have HE := hid (fun (W : World) (B : Below w.heap.size w W) => (⟨below_cell B d10, below_cell B d11, below_cell B d12⟩ : _ ∧ _ ∧ _))
        have hbw := cell_lt d10
        have hss := HB.out.size
        obtain ⟨c10, c11, c12⟩ := HE.out _ HB.out
        subst hpp
        clear d10 d11 d12
        obtain ⟨G, hG⟩ : ∃ G, G = gatV op L2 := ⟨_, rfl⟩
        rw [← hG] at A V RV
        generalize xs[k] = x at *
        obtain ⟨xk, xn, xt⟩ := x
        obtain ⟨G1, G2, G3⟩ := G
        unfold Val.v at A RA V RV
        simp only [] at *
        have q := eqv_same G1 G2 G3
        have hkl : (k : Int) < (xs.length : Int) := by omega
        clear s1 s2 s3 hxk hyk hLn hLm hLl hLn2 P Q hK hN hLk hLx hb
        go_wp2_with fail
        go_region_held3 (fun W' => W'.cell? ⟨b2, o2 + k * 3, none⟩ = some (.int .i64 xk) ∧ W'.cell? ⟨b2, o2 + k * 3 + 1, none⟩ = some (.int .i64 xn) ∧ W'.cell? ⟨b2, o2 + k * 3 + 2, none⟩ = some (.string xt))
          (with_reducible first | exact HE.out _ HB.out | exact HE.out _ HB.out.drew | exact HE.out _ HB6.out | exact HE.out _ HB7.out | exact HE.out _ HB8.out | exact HE.out _ HB9.out | fail)
          (first
            | (go_at_call 13; with_reducible refine (A.out _ (HP.out.below (Below.refl _ _).drew)).mono ?_; rintro e w6 ⟨rfl, ch, P6⟩; have HP6 := hid P6; have HB6 := hid (below_chg HB.out.drew ch HB.out.drew.size hwb); have HQ6 := hid ((HQ.out.below (Below.refl _ _).drew).chg ch hcg (fun k hk => by omega)); clear P6 ch)
            | (go_at_call 14; with_reducible refine (RA.out _ HQ6.out).mono ?_; rintro e w7 ⟨rfl, ch, R7⟩; have HR7 := hid R7; have HB7 := hid (below_chR HB6.out ch hwc hw2 HB6.out.size); have HP7 := hid (HP6.out.chg ch (by omega) (by omega)); clear R7 ch)
            | (go_at_call 11; with_reducible refine (V.out _ HP7.out).mono ?_; rintro e w8 ⟨rfl, b8⟩; have HP8 := hid (HP7.out.below b8); have HR8 := hid (HR7.out.below b8); have HB8 := hid (HB7.out.trans (b8.mono HB7.out.size)); clear b8)
            | (go_at_call 12; with_reducible refine (RV.out _ HR8.out).mono ?_; rintro e w9 ⟨rfl, b9⟩; have HP9 := hid (HP8.out.below b9); have HR9 := hid (HR8.out.below b9); have HB9 := hid (HB8.out.trans (b9.mono HB8.out.size)); clear b9)
            | fail)
        all_goals
          go_wp2_with fail
          go_roundw
          case rel => exact ⟨k + 1, L2, by omega, by go_num, by rw [← hG]; exact HP9.out, HR9.out, HS.out.1, HS.out.2.1, HS.out.2.2.1, HS.out.2.2.2, HB9.out⟩
          case measure => simp [intOf]; omega
      · have hkz : ¬ (k : Int) < (xs.length : Int) := by omega
        go_wp2
        go_ret
        exact ⟨rfl, HB.out⟩
end Go.Proofs.Ytfcecblppdgcbaa
