/- What (*reader).row does: the row that the bytes are, or what is thrown. Condition: the bytes lie within the reach, thirty-two times. -/
import Derived.Test.YtpdfgifkommpdabKeysRValue
import Derived.Test.YtpdfgifkommpdabValCopy
namespace Go.Proofs.Ytpdfgifkommpdab
open Go.RowKit Go.Lib Go.Sort
set_option linter.unusedVariables false

/-- A row of values that the call owns; nil, if it has none yet. -/
def OwnV (w : World) (base : Nat) (v : Value) (xs : List Val) : Prop := w.ownsRow base 23 3 v xs.length (cellsV xs)
theorem ownV_nil (w : World) (base : Nat) : OwnV w base (.slice none 0 0) [] := World.ownsRow_nil w base _ _
theorem cellsV_snoc : ∀ (xs : List Val) (a : Val), cellsV xs ++ [.int .i64 a.k, .int .i64 a.n, .string a.s] = cellsV (xs ++ [a])
  | [], a => rfl
  | x :: xs, a => by simp only [cellsV, List.cons_append, cellsV_snoc xs a]
theorem OwnV.only {rb base : Nat} {w w' : World} {v : Value} {l : List Val} (o : OwnV w base v l) (h : Only rb w w') (hb : rb < base) : OwnV w' base v l := by
  obtain ⟨h1, h2⟩ := o
  refine ⟨h1, ?_⟩
  rcases h2 with h2 | ⟨g, cap, cur, hv, hg, hh, r⟩
  · exact Or.inl h2
  · exact Or.inr ⟨g, cap, cur, hv, hg, by rw [h.block g (Array.getElem?_eq_some_iff.1 hh).1 (by omega) (by simp [nilB, Value.ownBlock])]; exact hh, r⟩
theorem OwnV.below {w w' : World} {base : Nat} {v : Value} {l : List Val} (o : OwnV w base v l) (B : Below w.heap.size w w') : OwnV w' base v l := by
  obtain ⟨h1, h2⟩ := o
  refine ⟨h1, ?_⟩
  rcases h2 with h2 | ⟨g, cap, cur, hv, hg, hh, r⟩
  · exact Or.inl h2
  · exact Or.inr ⟨g, cap, cur, hv, hg, by rw [B.block g (Array.getElem?_eq_some_iff.1 hh).1]; exact hh, r⟩
theorem ownV_mono {w : World} {b b' : Nat} {v : Value} {l : List Val} (h : OwnV w b v l) (hb : b' ≤ b) : OwnV w b' v l := by
  obtain ⟨h1, h2⟩ := h
  refine ⟨h1, ?_⟩
  rcases h2 with h2 | ⟨g, cap, cur, hv, hg, r⟩
  · exact Or.inl h2
  · exact Or.inr ⟨g, cap, cur, hv, Nat.le_trans hb hg, r⟩
theorem ownV_slice {w : World} {base : Nat} {v : Value} {l : List Val} (o : OwnV w base v l) : ∃ p c, v = .slice p l.length c ∧ Row w p l ∧ (p = none → l.length = 0 ∧ c = 0) ∧ l.length ≤ maxLen := by
  obtain ⟨_, p, c, hv, hm, r⟩ := Row.of_owns o
  refine ⟨p, c, hv, r, ?_, hm⟩
  intro hp
  subst hp
  obtain ⟨_, h2⟩ := o
  rcases h2 with ⟨h0, hn⟩ | ⟨g, cap, cur, hg, _⟩
  · rw [hv] at h0
    simp only [Value.slice.injEq, true_and] at h0
    exact h0
  · rw [hv] at hg
    cases hg

/-- append(s, x) of an owned row of values. -/
theorem appV {ops : Array Oper} {rest : List Oper} {o : Oper} {a : Act} {Q : Exit → Act → World → Prop} (w0 : World) (base g : Nat) (s x : Operand) (v : Value) (l : List Val) (k n : Int) (t : ByteArray) (hgd : o.guard = none)
    (ho : o.op = .call { callee := .builtin .append, args := #[s, x], argTypes := #[26, 26] }) (hs : a.eval s = v) (hx : a.eval x = .slice (some ⟨g, 0, none⟩) 1 1) (hg : g = w0.heap.size)
    (O : OwnV w0 base v l) (hl : (l.length + 1) * 32 ≤ 140737488351232) (hb : base ≤ w0.heap.size)
    (h : ∀ v' w', OwnV w' base v' (l ++ [⟨k, n, t⟩]) → Below base w0 w' → sliceLen v' = l.length + 1 → wpList Try.prog ops Q rest (a.put o.dst v') w') :
    wpList Try.prog ops Q (o :: rest) a (w0.alloc (.cells #[.int .i64 k, .int .i64 n, .string t] 23)) := by
  obtain ⟨i0, hi, hz0, hz1, hz2⟩ := info_parts infoV
  subst hg
  refine wpList_append_lies _ hgd s x 26 ho base 23 i0 _ 3 32 Try.underlying26 hi hz0 hz1 hz2 rfl (by decide) v _ _ hs (O.alloc _) ⟨w0.heap.size, 0, none⟩ 1 1 [.int .i64 k, .int .i64 n, .string t] hx rfl (World.news_of_block (heap_alloc_new w0 _)) (by simp [Value.oneCell']) (by decide) (by unfold maxLen; omega) (by omega) (by simp; omega) _ rfl ?_
  intro g' cap' w3 hown hgrow hat hlt
  rw [cellsV_snoc l ⟨k, n, t⟩] at hown
  have hown' : OwnV w3 base (.slice (some ⟨g', 0, none⟩) (l.length + 1) cap') (l ++ [⟨k, n, t⟩]) := by
    unfold OwnV
    rw [List.length_append]
    exact hown
  exact h _ w3 hown' (((Below.refl base w0).alloc hb _).grown hgrow (by simp; omega) (fun k hk => (O.lt k hk).1)) rfl

theorem Rd.mask {w : World} {rb : Nat} {t t' : Bool} {u : List UInt8} (h : Rd w rb t (u.map (tb t))) : Rd (w.setCell ⟨rb, 1, none⟩ (.int .u8 (msk t'))) rb t' (u.map (tb t')) := by
  obtain ⟨p, c, h0, h1, f0, f1, hc, hm⟩ := h
  rw [List.length_map] at h0 hc
  refine ⟨p, c, ?_, ?_, ?_, ?_, by simpa using hc, ?_⟩
  · rw [List.length_map]; simp [go_sem, h0]
  · simp [go_sem, h1]
  · simp [go_sem, f0]
  · simp [go_sem, f1]
  · rcases hm with hm | ⟨b, off, hp, hb, hcells⟩
    · left
      rw [List.map_eq_nil_iff] at hm
      rw [hm]; rfl
    · refine Or.inr ⟨b, off, hp, hb, fun i hi => ?_⟩
      have hi' : i < u.length := by simpa using hi
      have := hcells i (by simpa using hi')
      simp only [List.getElem_map, tb_tb] at this ⊢
      exact (World.cell?_of_block (w := w) (a := ⟨b, off + i, none⟩) (Below.heap_setCell _ _ _ _ (show b ≠ rb by omega))).trans this
theorem only_put (w : World) (rb o : Nat) (x : Value) : Only rb w (w.setCell ⟨rb, o, none⟩ x) := Past.put (Past.refl _ _ _)

theorem tb_false_map' (l : List UInt8) : l.map (tb false) = l := by
  have : tb false = id := by funext c; rfl
  rw [this, List.map_id]

/-- The ending of a row that is read. -/
def rowEnd (rb : Nat) (x : Except Int (List Val)) (w : World) (e : Ending) (w' : World) : Prop :=
  Only rb w w' ∧ match x with
    | .ok vs => ∃ v, e = .returned v ∧ OwnV w' w.heap.size v vs
    | .error n => e = .panicked (thr n)

set_option maxHeartbeats 4000000 in
theorem row_any (rb : Nat) (l : List UInt8) (q : Option Addr) (ds : List Bool) (cd : Nat) (w : World) (hR : Rd w rb false l) (hD : ds.length ≤ maxLen) (rD : Bits w q ds) (hQ : ds ≠ [] → ∀ a, q = some a → a.block ≠ rb) (hl : l.length * 32 ≤ 140737488351232) :
    Calls Try.prog 16 #[.pointer (some ⟨rb, 0, none⟩), .slice q ds.length cd] w (rowEnd rb (decL l ds) w) := by
  have hrb := hR.lt
  have HR : Hid (Rd w rb false l) := hR
  have HD : Hid (∀ wr, Only rb w wr → Bits wr q ds) := fun wr h => by
    by_cases hds : ds = []
    · exact Or.inl hds
    rcases rD with h0 | ⟨b, off, hp, hc⟩
    · exact Or.inl h0
    · exact Or.inr ⟨b, off, hp, fun i hi => h.cell (hc i hi) (hQ hds _ hp)⟩
  clear hR rD hQ
  go_enter Try.func16, Try.ntmps16
  go_wp2
  go_loopw [5] (fun b wr => ∃ acc r t, OwnV wr w.heap.size b acc ∧ Rd wr rb t (r.map (tb t)) ∧ decL l ds = upon acc (decL r (ds.drop acc.length)) ∧ acc.length + r.length ≤ l.length ∧ Only rb w wr) (fun b _ => l.length + 1 - sliceLen b)
  case atStart => exact ⟨[], l, false, ownV_nil _ _, by rw [tb_false_map']; exact HR.out, (upon_nil _).symm, by simp, Only.refl _ _⟩
  case round =>
    clear HR
    obtain ⟨acc, r, t, hO, hR, hT, hL, hN⟩ := hrel
    have hsz := hN.size
    obtain ⟨pv, cv, rfl, rv, _, hmv⟩ := ownV_slice hO
    have HO : Hid (OwnV wr w.heap.size _ acc) := hO
    have HN : Hid (Only rb w wr) := hN
    have HT : Hid (decL l ds = upon acc (decL r (ds.drop acc.length))) := hT
    have HRd : Hid (Rd wr rb t (r.map (tb t))) := hR
    obtain ⟨p, c, h0, h1, f0, f1, hc, hm⟩ := hR
    rw [List.length_map] at h0
    have hml : acc.length ≤ 140737488351232 := by omega
    clear hO hN hT hm hc rv
    by_cases hr : r = []
    · subst hr
      simp only [List.length_nil] at h0
      go_wp2
      go_ret
      refine ⟨HN.out, ?_⟩
      rw [HT.out, decL_nil]
      exact ⟨_, rfl, by simpa using HO.out⟩
    · have hpos : 0 < r.length := List.length_pos_iff.2 hr
      have MK := mask_any q ds cd acc.length wr hD (by unfold maxLen; omega) (HD.out wr HN.out)
      rw [← head_drop] at MK
      have hnx := fun v u h => upon_ok acc r ds v u hr h
      have hbx := fun e h => upon_bad acc r ds e hr h
      generalize ht' : (ds.drop acc.length).headD false = t' at *
      have HR2 : Hid (Rd (wr.setCell ⟨rb, 1, none⟩ (.int .u8 (msk t'))) rb t' (r.map (tb t'))) := HRd.out.mask
      have V := rvalue_any rb t' (r.map (tb t')) _ (by simpa using hr) HR2.out (by simp; omega)
      have HON : Hid (Only rb wr (wr.setCell ⟨rb, 1, none⟩ (.int .u8 (msk t')))) := only_put _ _ _ _
      clear HRd HR2
      unfold valEnd at V
      cases hv : valD (r.map (tb t')) with
      | error e =>
        have HB : Hid (decL l ds = .error e) := HT.out.trans (hbx e hv)
        rw [hv] at V
        simp only [] at V
        clear hnx hbx HT
        go_wp2_with (first
          | (go_at_call 12; with_reducible refine MK.mono ?_; rintro e w2 ⟨rfl, hw⟩; subst hw)
          | (go_at_call 23; with_reducible refine V.mono ?_; rintro e w3 ⟨O3, rfl⟩)
          | fail)
        refine ⟨rfl, (HN.out.trans HON.out).trans O3, ?_⟩
        rw [HB.out]
      | ok x =>
        obtain ⟨⟨xk, xn, xt⟩, u⟩ := x
        have HB : Hid (decL l ds = upon (acc ++ [⟨xk, xn, xt⟩]) (decL (u.map (tb t')) (ds.drop (acc ++ [(⟨xk, xn, xt⟩ : Val)]).length))) := HT.out.trans (hnx _ _ hv)
        obtain ⟨k, e1, e2, e3, _⟩ := valD_rest _ _ _ hv
        have hul : u.length + 1 ≤ r.length := by
          have h3 := congrArg List.length e1
          simp only [List.length_drop, List.length_map] at h3
          omega
        rw [hv] at V
        simp only [] at V
        clear hnx hbx HT hv e1 e2 e3
        go_wp2_with (first
          | (go_at_call 12; with_reducible refine MK.mono ?_; rintro e w2 ⟨rfl, hw⟩; subst hw)
          | (go_at_call 23; with_reducible refine V.mono ?_; rintro e w3 ⟨O3, rfl, R3⟩; have HO3 := hid (HON.out.trans O3); have HR3 := hid R3; clear O3 R3)
          | (at_builtin; refine appV w3 w.heap.size _ _ _ _ acc xk xn xt rfl rfl rfl rfl rfl (HO.out.only HO3.out hrb) (by omega) (Nat.le_trans hsz HO3.out.size) ?_; intro v' w' O' B' S'; have HO4 := hid O'; have HB4 := hid B'; clear O' B')
          | fail)
        go_roundw
        case rel => exact ⟨acc ++ [⟨xk, xn, xt⟩], u.map (tb t'), t', HO4.out, by rw [map_tb_tb]; exact HR3.out.below HB4.out hrb, HB.out, by simp; omega, (HN.out.trans HO3.out).then HB4.out⟩
        case measure =>
          simp [sliceLen] at *
          omega
end Go.Proofs.Ytpdfgifkommpdab
