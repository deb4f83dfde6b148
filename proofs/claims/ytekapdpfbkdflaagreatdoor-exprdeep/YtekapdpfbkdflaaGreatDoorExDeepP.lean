/- Plain mathematics of expressions: how deep brackets, signs and NOT go. No program is named here. No conditions. -/
import Derived.Test.YtekapdpfbkdflaaGreatDoorExSimP
import Derived.Test.YtekapdpfbkdflaaGreatDoorExLeftP
import Derived.Test.YtekapdpfbkdflaaGreatDoorLxCatP
namespace Go.Proofs.YtekapdpfbkdflaaGreatDoor
open Go.Lib
set_option linter.unusedVariables false
set_option maxRecDepth 20000

/-- What stands ahead, of each kind: as a text, and as words. -/
def opT (k : Nat) : List UInt8 := if k = 0 then [40] else if k = 1 then [97, 98, 115, 40] else [40, 110, 111, 116, 32]
def opW (k : Nat) : List Tk := if k = 0 then [⟨5, [40], 0⟩] else if k = 1 then [⟨1, [97, 98, 115], 0⟩, ⟨5, [40], 0⟩] else [⟨5, [40], 0⟩, ⟨1, [110, 111, 116], 0⟩]
def chT : Nat → List UInt8
  | 0 => []
  | n + 1 => 32 :: 43 :: 32 :: 49 :: chT n
def chW : Nat → List Tk
  | 0 => []
  | n + 1 => ⟨5, [43], 0⟩ :: ⟨2, [], 1⟩ :: chW n
def deepN (ks : List Nat) : Nat := (ks.map fun k => if k = 0 then 1 else if k = 1 then 1 else 2).sum
def dpT (ks : List Nat) (m : Nat) : List UInt8 := ks.flatMap opT ++ ((97 :: chT m) ++ List.replicate ks.length 41)
def dpW (ks : List Nat) (m : Nat) : List Tk := ks.flatMap opW ++ ((⟨1, [97], 0⟩ :: chW m) ++ List.replicate ks.length ⟨5, [41], 0⟩)
theorem dpW_cons (k : Nat) (ks : List Nat) (m : Nat) : dpW (k :: ks) m = opW k ++ (dpW ks m ++ [⟨5, [41], 0⟩]) := by
  unfold dpW
  rw [List.flatMap_cons, List.length_cons, List.replicate_succ']
  simp only [List.append_assoc]

/-! ### Words -/
theorem toks_abs (f : Nat) (r : List UInt8) (i : Nat) : toks (f + 1) (97 :: 98 :: 115 :: 40 :: r) i = (toks f (40 :: r) (i + 3)).map ((⟨1, [97, 98, 115], 0⟩, i) :: ·) := rfl
theorem toks_not (f : Nat) (r : List UInt8) (i : Nat) : toks (f + 1) (110 :: 111 :: 116 :: 32 :: r) i = (toks f (32 :: r) (i + 3)).map ((⟨1, [110, 111, 116], 0⟩, i) :: ·) := rfl
theorem toks_pl (f : Nat) (r : List UInt8) (i : Nat) : toks (f + 1) (43 :: 32 :: r) i = (toks f (32 :: r) (i + 1)).map ((⟨5, [43], 0⟩, i) :: ·) := rfl
theorem toks_a {f : Nat} {r : List UInt8} (hr : r = [] ∨ ∃ s, r = 32 :: s ∨ r = 41 :: s) (i : Nat) : toks (f + 1) (97 :: r) i = (toks f r (i + 1)).map ((⟨1, [97], 0⟩, i) :: ·) := by
  rcases hr with rfl | ⟨s, rfl | rfl⟩ <;> rfl
/-- Words of a text that begins so. -/
def Wds (l : List UInt8) (r : List UInt8) (ws : List Tk) : Prop := ∀ f i, l.length < f → ∃ xs g j, xs.map (·.1) = ws ∧ r.length < g ∧ toks f l i = addT xs (toks g r j)
theorem Wds.trans {l r s : List UInt8} {a b : List Tk} (h : Wds l r a) (k : Wds r s b) : Wds l s (a ++ b) := by
  intro f i hf
  obtain ⟨xs, g, j, hx, hg, e⟩ := h f i hf
  obtain ⟨ys, g', j', hy, hg', e'⟩ := k g j hg
  refine ⟨xs ++ ys, g', j', by rw [List.map_append, hx, hy], hg', ?_⟩
  rw [e, e']
  cases toks g' s j' <;> simp [addT]
theorem Wds.refl (l : List UInt8) : Wds l l [] := fun f i hf => ⟨[], f, i, rfl, hf, (addT_nil _).symm⟩
theorem Wds.one {l r : List UInt8} {t : Tk} {n : Nat} (hl : r.length < l.length) (h : ∀ f i, toks (f + 1) l i = (toks f r (i + n)).map ((t, i) :: ·)) : Wds l r [t] := by
  intro f i hf
  obtain ⟨f, rfl⟩ : ∃ g, f = g + 1 := ⟨f - 1, by omega⟩
  refine ⟨[(t, i)], f, i + n, rfl, by omega, ?_⟩
  rw [h]
  cases toks f r (i + n) <;> rfl
theorem Wds.sp (r : List UInt8) : Wds (32 :: r) r [] := by
  intro f i hf
  obtain ⟨f, rfl⟩ : ∃ g, f = g + 1 := ⟨f - 1, by omega⟩
  exact ⟨[], f, i + 1, rfl, by simp at hf; omega, by rw [addT_nil]; rfl⟩
theorem wds_op (k : Nat) (r : List UInt8) : Wds (opT k ++ r) r (opW k) := by
  unfold opT opW
  by_cases h0 : k = 0
  · rw [if_pos h0, if_pos h0]
    exact Wds.one (n := 1) (by simp) (fun f i => toks_op f r i)
  · rw [if_neg h0, if_neg h0]
    by_cases h1 : k = 1
    · rw [if_pos h1, if_pos h1]
      exact (Wds.one (r := 40 :: r) (n := 3) (by simp) (fun f i => toks_abs f r i)).trans (Wds.one (n := 1) (by simp) (fun f i => toks_op f r i))
    · rw [if_neg h1, if_neg h1]
      have a : Wds (40 :: 110 :: 111 :: 116 :: 32 :: r) (110 :: 111 :: 116 :: 32 :: r) [⟨5, [40], 0⟩] := Wds.one (n := 1) (by simp) (fun f i => toks_op f _ i)
      have b : Wds (110 :: 111 :: 116 :: 32 :: r) (32 :: r) [⟨1, [110, 111, 116], 0⟩] := Wds.one (n := 3) (by simp) (fun f i => toks_not f r i)
      exact (a.trans b).trans (Wds.sp r)
theorem wds_ops : ∀ (ks : List Nat) (r : List UInt8), Wds (ks.flatMap opT ++ r) r (ks.flatMap opW)
  | [], r => Wds.refl r
  | k :: ks, r => by
    rw [List.flatMap_cons, List.flatMap_cons, List.append_assoc]
    exact (wds_op k _).trans (wds_ops ks r)
theorem dg_49 : Dg 49 := ⟨by decide, by decide⟩
theorem map_two {l : Ts} {a b : Tk} {r : List Tk} (h : l.map (·.1) = a :: b :: r) : ∃ p q t, l = (a, p) :: (b, q) :: t ∧ t.map (·.1) = r := by
  cases l with
  | nil => cases h
  | cons x l =>
    cases l with
    | nil => simp at h
    | cons y l =>
      simp only [List.map_cons, List.cons.injEq] at h
      obtain ⟨rfl, rfl, h⟩ := h
      exact ⟨x.2, y.2, l, rfl, h⟩
theorem map_one {l : Ts} {a : Tk} {r : List Tk} (h : l.map (·.1) = a :: r) : ∃ p t, l = (a, p) :: t ∧ t.map (·.1) = r := by
  cases l with
  | nil => cases h
  | cons x l =>
    simp only [List.map_cons, List.cons.injEq] at h
    obtain ⟨rfl, h⟩ := h
    exact ⟨x.2, l, rfl, h⟩
theorem chT_head : ∀ (m n : Nat), chT m ++ List.replicate n (41 : UInt8) = [] ∨ ∃ s, chT m ++ List.replicate n (41 : UInt8) = 32 :: s ∨ chT m ++ List.replicate n (41 : UInt8) = 41 :: s
  | 0, 0 => Or.inl rfl
  | 0, n + 1 => Or.inr ⟨_, Or.inr rfl⟩
  | m + 1, n => Or.inr ⟨_, Or.inl rfl⟩
theorem wds_ch (n : Nat) : ∀ m : Nat, Wds (chT m ++ List.replicate n 41) (List.replicate n 41) (chW m)
  | 0 => Wds.refl _
  | m + 1 => by
    have h1 : Wds (32 :: 43 :: 32 :: 49 :: (chT m ++ List.replicate n 41)) (43 :: 32 :: 49 :: (chT m ++ List.replicate n 41)) [] := Wds.sp _
    have h2 : Wds (43 :: 32 :: 49 :: (chT m ++ List.replicate n 41)) (32 :: 49 :: (chT m ++ List.replicate n 41)) [⟨5, [43], 0⟩] := Wds.one (n := 1) (by simp) (fun f i => toks_pl f _ i)
    have h3 : Wds (32 :: 49 :: (chT m ++ List.replicate n 41)) (49 :: (chT m ++ List.replicate n 41)) [] := Wds.sp _
    have h4 : Wds (49 :: (chT m ++ List.replicate n 41)) (chT m ++ List.replicate n 41) [⟨2, [], 1⟩] := Wds.one (n := 1) (by simp) (fun f i => toks_dg dg_49 _ (fun d s h => by
      rcases chT_head m n with e | ⟨s', e | e⟩
      · rw [e] at h; cases h
      · rw [e] at h; cases h; rfl
      · rw [e] at h; cases h; rfl) i)
    exact (((h1.trans h2).trans h3).trans h4).trans (wds_ch n m)
theorem wds_cl : ∀ n : Nat, Wds (List.replicate n 41) [] (List.replicate n ⟨5, [41], 0⟩)
  | 0 => Wds.refl _
  | n + 1 => (Wds.one (l := 41 :: List.replicate n 41) (r := List.replicate n 41) (n := 1) (by simp) (fun f i => toks_cl f _ i)).trans (wds_cl n)
theorem toks_dp (ks : List Nat) (m : Nat) : ∃ l, toksOf (dpT ks m) = .ok l ∧ l.map (·.1) = dpW ks m := by
  have h1 := wds_ops ks ((97 :: chT m) ++ List.replicate ks.length 41)
  have h2 : Wds ((97 :: chT m) ++ List.replicate ks.length 41) (chT m ++ List.replicate ks.length 41) [⟨1, [97], 0⟩] := Wds.one (n := 1) (by simp) (fun f i => toks_a (chT_head m ks.length) i)
  have h := h1.trans ((h2.trans (wds_ch ks.length m)).trans (wds_cl ks.length))
  obtain ⟨xs, g, j, hx, hg, e⟩ := h ((dpT ks m).length + 1) 0 (by unfold dpT; omega)
  refine ⟨xs, ?_, ?_⟩
  · unfold toksOf
    unfold dpT at e ⊢
    rw [e, toks_nil]
    simp [addT]
  · rw [hx]
    unfold dpW
    simp

/-! ### Reading -/
theorem not_at (n : Int) (p : Nat) (m : Ts) : opAt 3 ((⟨1, [110, 111, 116], n⟩, p) :: m) = some ⟨3, 2, 1, [110, 111, 116], 3⟩ := rfl
theorem not_ok {d : Nat} {n : Int} {p : Nat} {m r : Ts} {e : Ex} (h : (lns d).nt m = .ok (e, r)) (hr : Stp r) : (lns (d + 1)).nt ((⟨1, [110, 111, 116], n⟩, p) :: m) = .ok (mkE 3 2 [e], r) ∧ (lns (d + 1)).orr ((⟨1, [110, 111, 116], n⟩, p) :: m) = .ok (mkE 3 2 [e], r) := by
  have hn : notP (some (lns d)) ((⟨1, [110, 111, 116], n⟩, p) :: m) = .ok (mkE 3 2 [e], r) := by
    unfold notP aheadP
    rw [not_at]
    simp only [Option.map_some, List.tail_cons]
    rw [h]
  exact ⟨hn, row_ok (row_ok hn (hr.1 2)) (hr.1 1)⟩
theorem not_err {d : Nat} {n : Int} {p : Nat} {m : Ts} {z : Ts × Int} (h : (lns d).nt m = .error z) : (lns (d + 1)).nt ((⟨1, [110, 111, 116], n⟩, p) :: m) = .error z ∧ (lns (d + 1)).orr ((⟨1, [110, 111, 116], n⟩, p) :: m) = .error z := by
  have hn : notP (some (lns d)) ((⟨1, [110, 111, 116], n⟩, p) :: m) = .error z := by
    unfold notP aheadP
    rw [not_at]
    simp only [Option.map_some, List.tail_cons]
    rw [h]
  exact ⟨hn, row_err (row_err hn)⟩
theorem not_zero {n : Int} {p : Nat} {m : Ts} : ∃ z, (lns 0).nt ((⟨1, [110, 111, 116], n⟩, p) :: m) = .error (z, 21) ∧ (lns 0).orr ((⟨1, [110, 111, 116], n⟩, p) :: m) = .error (z, 21) := by
  have hn : notP none ((⟨1, [110, 111, 116], n⟩, p) :: m) = .error (((⟨1, [110, 111, 116], n⟩, p) :: m), 21) := by
    unfold notP aheadP
    rw [not_at]
    rfl
  exact ⟨_, hn, row_err (n := 1) (row_err (n := 2) hn)⟩
theorem brk_zero {x : Tk × Nat} {l : Ts} (hx : x.1.k = 5 ∧ x.1.s = [40]) : (lns 0).nt (x :: l) = .error (x :: l, 21) ∧ (lns 0).orr (x :: l) = .error (x :: l, 21) := by
  have hi : itemP ((none : Option Lns).map (·.orr)) (x :: l) = .error (x :: l, 21) := by
    unfold itemP
    rw [if_pos (by simp [stn, hx])]
    rfl
  have := up_err (p := none) (op_open _ hx.2 3) (op_open _ hx.2 8) hi
  exact ⟨this.2.1, this.2.2⟩
def absC : Cal := ⟨5, 2, [97, 98, 115], 1⟩
theorem abs_op (k : Int) (p : Nat) (m : Ts) : opAt 3 ((⟨1, [97, 98, 115], k⟩, p) :: m) = none ∧ opAt 8 ((⟨1, [97, 98, 115], k⟩, p) :: m) = none := ⟨rfl, rfl⟩
theorem abs_item {pr : Option (Ts → Rd Ex)} (k k' : Int) (p p' : Nat) (m : Ts) : itemP pr ((⟨1, [97, 98, 115], k⟩, p) :: (⟨5, [40], k'⟩, p') :: m) = (match brkP pr (fun g => inP g absC) ((⟨5, [40], k'⟩, p') :: m) with
      | .error x => .error x
      | .ok y => .ok (mkE 5 2 y.1, y.2)) := rfl
theorem abs_ok {d : Nat} {k k' : Int} {p p' : Nat} {y : Tk × Nat} {l c : Ts} {e : Ex} (hy : y.1.k = 5 ∧ y.1.s = [41]) (hc : Stp c) (h : (lns d).orr (l ++ y :: c) = .ok (e, y :: c)) :
    (lns (d + 1)).nt ((⟨1, [97, 98, 115], k⟩, p) :: (⟨5, [40], k'⟩, p') :: (l ++ y :: c)) = .ok (mkE 5 2 [e], c) ∧ (lns (d + 1)).orr ((⟨1, [97, 98, 115], k⟩, p) :: (⟨5, [40], k'⟩, p') :: (l ++ y :: c)) = .ok (mkE 5 2 [e], c) := by
  have hi : itemP ((some (lns d)).map (·.orr)) ((⟨1, [97, 98, 115], k⟩, p) :: (⟨5, [40], k'⟩, p') :: (l ++ y :: c)) = .ok (mkE 5 2 [e], c) := by
    rw [abs_item]
    unfold brkP
    simp only [Option.map_some, List.tail_cons]
    have hin : inP (lns d).orr absC (l ++ y :: c) = .ok ([e], y :: c) := by
      unfold inP
      rw [if_neg (by simp [Cal.all, absC])]
      unfold opsP
      rw [h]
      rfl
    rw [hin]
    simp only []
    unfold mustP
    rw [if_pos (by simp [stn, hy])]
    rfl
  have := up_ok (p := some (lns d)) (abs_op k p _).1 (abs_op k p _).2 hi hc
  exact ⟨this.2.1, this.2.2⟩
theorem abs_err {d : Nat} {k k' : Int} {p p' : Nat} {l : Ts} {z : Ts × Int} (h : (lns d).orr l = .error z) :
    (lns (d + 1)).nt ((⟨1, [97, 98, 115], k⟩, p) :: (⟨5, [40], k'⟩, p') :: l) = .error z ∧ (lns (d + 1)).orr ((⟨1, [97, 98, 115], k⟩, p) :: (⟨5, [40], k'⟩, p') :: l) = .error z := by
  have hi : itemP ((some (lns d)).map (·.orr)) ((⟨1, [97, 98, 115], k⟩, p) :: (⟨5, [40], k'⟩, p') :: l) = .error z := by
    rw [abs_item]
    unfold brkP
    simp only [Option.map_some, List.tail_cons]
    have hin : inP (lns d).orr absC l = .error z := by
      unfold inP
      rw [if_neg (by simp [Cal.all, absC])]
      unfold opsP
      rw [h]
    rw [hin]
  have := up_err (p := some (lns d)) (abs_op k p _).1 (abs_op k p _).2 hi
  exact ⟨this.2.1, this.2.2⟩
theorem abs_zero {k k' : Int} {p p' : Nat} {l : Ts} : ∃ z, (lns 0).nt ((⟨1, [97, 98, 115], k⟩, p) :: (⟨5, [40], k'⟩, p') :: l) = .error (z, 21) ∧ (lns 0).orr ((⟨1, [97, 98, 115], k⟩, p) :: (⟨5, [40], k'⟩, p') :: l) = .error (z, 21) := by
  have hi : itemP ((none : Option Lns).map (·.orr)) ((⟨1, [97, 98, 115], k⟩, p) :: (⟨5, [40], k'⟩, p') :: l) = .error ((⟨5, [40], k'⟩, p') :: l, 21) := by
    rw [abs_item]
    rfl
  have := up_err (p := none) (abs_op k p _).1 (abs_op k p _).2 hi
  exact ⟨_, this.2.1, this.2.2⟩
/-- The chain. -/
theorem one_item (pr : Option Lns) (v : Int) (p : Nat) (r : Ts) : signP pr ((⟨2, [], v⟩, p) :: r) = .ok (litE ⟨2, v, ⟨#[]⟩⟩, r) := rfl
theorem opAt_ch (n : Int) (hn : n ≠ 6) {c : Ts} (hc : Clo c) : ∀ (m : Nat) (t : Ts), t.map (·.1) = chW m → opAt n (t ++ c) = none
  | 0, t, h => by
    obtain rfl : t = [] := by simpa [chW] using h
    exact hc.op n
  | m + 1, t, h => by
    obtain ⟨p, q', t, rfl, _⟩ := map_two h
    · rw [List.cons_append]
      refine opAt_head fun o ho hl q => ?_
      have h' : (oprs.all fun o => !(o.tok == 5 && o.txt == [43]) || o.line == 6) = true := rfl
      have := List.all_eq_true.1 h' o ho
      simp only [] at q
      rw [← q.1, ← q.2, hl] at this
      simp at this
      exact hn this
theorem chain_rows {pr : Option Lns} {c : Ts} (hc : Clo c) : ∀ (m : Nat) (t : Ts) (e : Ex) (f : Nat), t.map (·.1) = chW m → (t ++ c).length ≤ f → ∃ e', rowL 6 (rowP 7 (signP pr)) f e (t ++ c) = .ok (e', c)
  | 0, t, e, f, h, hf => by
    obtain rfl : t = [] := by simpa [chW] using h
    cases f with
    | zero => exact ⟨e, rfl⟩
    | succ f =>
      refine ⟨e, ?_⟩
      rw [List.nil_append, rowL, hc.op 6]
  | m + 1, t, e, f, h, hf => by
    obtain ⟨xp, yp, t, rfl, ht⟩ := map_two h
    · obtain ⟨f, rfl⟩ : ∃ g, f = g + 1 := ⟨f - 1, by simp at hf; omega⟩
      have h7 : rowP 7 (signP pr) ((⟨2, [], 1⟩, yp) :: (t ++ c)) = .ok (litE ⟨2, 1, ⟨#[]⟩⟩, t ++ c) := row_ok (one_item pr 1 yp _) (opAt_ch 7 (by decide) hc m t ht)
      obtain ⟨e', he⟩ := chain_rows (pr := pr) hc m t (mkE 4 11 [e, litE ⟨2, 1, ⟨#[]⟩⟩]) f ht (by simp at hf ⊢; omega)
      refine ⟨e', ?_⟩
      have h6 : opAt 6 ((⟨5, [43], 0⟩, xp) :: (⟨2, [], 1⟩, yp) :: (t ++ c)) = some ⟨4, 11, 5, [43], 6⟩ := rfl
      rw [List.cons_append, List.cons_append, rowL, h6]
      simp only [List.tail_cons]
      rw [h7]
      exact he
theorem a_item (pr : Option Lns) (k : Int) (p : Nat) {r : Ts} (h1 : stn 5 [40] r = false) (h2 : stn 5 [46] r = false) : signP pr ((⟨1, [97], k⟩, p) :: r) = .ok (colE [] [97], r) := by
  have hcal : calT ((⟨1, [97], k⟩, p) :: r) = none := by
    cases r with
    | nil => rfl
    | cons y r =>
      show (if (1 : Int) = 1 ∧ y.1.k = 5 ∧ y.1.s = [40] then calN [97] else none) = none
      split
      · rfl
      · rfl
  have hcol : colP ((⟨1, [97], k⟩, p) :: r) = .ok (colE [] [97], r) := by
    have : nameP ((⟨1, [97], k⟩, p) :: r) = .ok ([97], r) := rfl
    unfold colP
    rw [this]
    simp only []
    rw [if_neg (by rw [h2]; simp)]
  have hit : itemP (pr.map (·.orr)) ((⟨1, [97], k⟩, p) :: r) = .ok (colE [] [97], r) := by
    have hl : litT ((⟨1, [97], k⟩, p) :: r) = none := rfl
    unfold itemP
    rw [if_neg (by simp [stn]), hl]
    simp only []
    rw [hcal]
    exact hcol
  unfold signP
  rw [ahead_no (show opAt 8 ((⟨1, [97], k⟩, p) :: r) = none from rfl)]
  exact hit
theorem stn_ch {k : Int} {s : List UInt8} {c : Ts} (hc : Clo c) (h0 : s ≠ [43]) (h1 : s ≠ [41]) : ∀ (m : Nat) (t : Ts), t.map (·.1) = chW m → stn k s (t ++ c) = false
  | 0, t, h => by
    obtain rfl : t = [] := by simpa [chW] using h
    exact hc.stn h1
  | m + 1, t, h => by
    obtain ⟨p, q', t, rfl, _⟩ := map_two h
    have : (([43] : List UInt8) == s) = false := beq_eq_false_iff_ne.2 (Ne.symm h0)
    rw [List.cons_append]
    simp [stn, this]
theorem chain_all (d m : Nat) {l c : Ts} (hc : Clo c) (h : l.map (·.1) = ⟨1, [97], 0⟩ :: chW m) : ∃ e, (lns d).nt (l ++ c) = .ok (e, c) ∧ (lns d).orr (l ++ c) = .ok (e, c) := by
  obtain ⟨xp, t, rfl, ht⟩ := map_one h
  · obtain ⟨e', he⟩ := chain_rows (pr := prv d) hc m t (colE [] [97]) (t ++ c).length ht (Nat.le_refl _)
    have h7 : rowP 7 (signP (prv d)) ((⟨1, [97], 0⟩, xp) :: (t ++ c)) = .ok (colE [] [97], t ++ c) :=
      row_ok (a_item (prv d) 0 xp (stn_ch hc (by decide) (by decide) m t ht) (stn_ch hc (by decide) (by decide) m t ht)) (opAt_ch 7 (by decide) hc m t ht)
    refine ⟨e', ?_⟩
    rw [lns_eq]
    refine up_sum (p := prv d) rfl ?_ hc.stp
    unfold rowP
    rw [List.cons_append]
    have h7' := h7
    unfold rowP at h7'
    rw [h7']
    exact he
theorem deep_cons (k : Nat) (ks : List Nat) : deepN (k :: ks) = (if k = 0 then 1 else if k = 1 then 1 else 2) + deepN ks := by simp [deepN]
/-- How deep it goes. -/
theorem deep_all (m : Nat) : ∀ (ks : List Nat) (d : Nat) (l c : Ts), l.map (·.1) = dpW ks m → Clo c →
    (deepN ks ≤ d → ∃ e, (lns d).nt (l ++ c) = .ok (e, c) ∧ (lns d).orr (l ++ c) = .ok (e, c)) ∧ (d < deepN ks → ∃ z, (lns d).nt (l ++ c) = .error (z, 21) ∧ (lns d).orr (l ++ c) = .error (z, 21))
  | [], d, l, c, h, hc => ⟨fun _ => chain_all d m hc (by rw [h]; simp [dpW]), fun q => by simp [deepN] at q⟩
  | k :: ks, d, l, c, h, hc => by
    rw [dpW_cons] at h
    obtain ⟨a, r, rfl, ha, hr⟩ := List.map_eq_append_iff.1 h
    obtain ⟨n, s, rfl, hn, hs⟩ := List.map_eq_append_iff.1 hr
    obtain ⟨yp, s', rfl, hs'⟩ := map_one hs
    obtain rfl : s' = [] := by simpa using hs'
    obtain ⟨y, hyy⟩ : ∃ y : Tk × Nat, y = ((⟨5, [41], 0⟩ : Tk), yp) := ⟨_, rfl⟩
    rw [← hyy]
    have hy : y.1 = ⟨5, [41], 0⟩ := by rw [hyy]
    have hy' : y.1.k = 5 ∧ y.1.s = [41] := by rw [hy]; exact ⟨rfl, rfl⟩
    have hcy : Clo (y :: c) := Or.inr ⟨y, c, rfl, hy'⟩
    have e1 : a ++ (n ++ [y]) ++ c = a ++ (n ++ y :: c) := by simp
    rw [e1, deep_cons]
    clear h hr hs e1 hyy
    unfold opW at ha
    by_cases h0 : k = 0
    · subst h0
      simp only [if_true, List.map_eq_singleton_iff] at ha
      obtain ⟨x, rfl, hx⟩ := ha
      have hx' : x.1.k = 5 ∧ x.1.s = [40] := by rw [hx]; exact ⟨rfl, rfl⟩
      rw [if_pos rfl]
      cases d with
      | zero => exact ⟨fun q => by omega, fun _ => ⟨_, brk_zero hx'⟩⟩
      | succ d =>
        have ih := deep_all m ks d n (y :: c) hn hcy
        refine ⟨fun q => ?_, fun q => ?_⟩
        · obtain ⟨e, _, g⟩ := ih.1 (by omega)
          exact ⟨e, brk_ok hx' hy' hc.stp g⟩
        · obtain ⟨z, _, g⟩ := ih.2 (by omega)
          exact ⟨z, brk_err hx' g⟩
    · rw [if_neg h0] at ha
      by_cases h1 : k = 1
      · subst h1
        rw [if_pos rfl] at ha
        obtain ⟨xp, xp', t, rfl, ht⟩ := map_two ha
        · obtain rfl : t = [] := by simpa using ht
          rw [if_neg (by decide), if_pos rfl]
          simp only [List.cons_append, List.nil_append]
          cases d with
          | zero => exact ⟨fun q => by omega, fun _ => abs_zero⟩
          | succ d =>
            have ih := deep_all m ks d n (y :: c) hn hcy
            refine ⟨fun q => ?_, fun q => ?_⟩
            · obtain ⟨e, _, g⟩ := ih.1 (by omega)
              exact ⟨_, abs_ok hy' hc.stp g⟩
            · obtain ⟨z, _, g⟩ := ih.2 (by omega)
              exact ⟨z, abs_err g⟩
      · rw [if_neg h1] at ha
        obtain ⟨xp, xp', t, rfl, ht⟩ := map_two ha
        obtain rfl : t = [] := by simpa using ht
        rw [if_neg h0, if_neg h1]
        simp only [List.cons_append, List.nil_append]
        match d with
        | 0 => exact ⟨fun q => by omega, fun _ => ⟨_, brk_zero ⟨rfl, rfl⟩⟩⟩
        | 1 =>
          refine ⟨fun q => by omega, fun _ => ?_⟩
          obtain ⟨z, _, g⟩ := not_zero (n := 0) (p := xp') (m := n ++ y :: c)
          exact ⟨z, brk_err ⟨rfl, rfl⟩ g⟩
        | d + 2 =>
          have ih := deep_all m ks d n (y :: c) hn hcy
          refine ⟨fun q => ?_, fun q => ?_⟩
          · obtain ⟨e, g, _⟩ := ih.1 (by omega)
            have g2 := (not_ok (n := 0) (p := xp') g hcy.stp).2
            exact ⟨_, brk_ok (l := (⟨1, [110, 111, 116], 0⟩, xp') :: n) ⟨rfl, rfl⟩ hy' hc.stp g2⟩
          · obtain ⟨z, g, _⟩ := ih.2 (by omega)
            exact ⟨z, brk_err ⟨rfl, rfl⟩ (not_err (n := 0) (p := xp') g).2⟩
end Go.Proofs.YtekapdpfbkdflaaGreatDoor
