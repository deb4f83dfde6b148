/- The document's reader: what take, two and key do. Condition: the bytes lie within the reach. -/
import Derived.Test.YtilmlegkkgiahaaNdRest
import Derived.Laws.MakeOwn
import Derived.BigQuiet
import Derived.Deep.CutRange
namespace Go.Proofs.Ytilmlegkkgiahaa
open Go.RowKit Go.Lib
set_option linter.unusedVariables false
set_option maxRecDepth 20000

def zeros (L : Nat) : List UInt8 := List.replicate L 0
theorem zeros_len (L : Nat) : (zeros L).length = L := List.length_replicate
theorem made_zero (L : Nat) : madeCells (Value.int .u8 0).cells L = (bcells (zeros L)).toArray := by
  unfold zeros
  apply Array.ext_getElem?
  intro i
  simp only [madeCells, bcells, List.getElem?_toArray, List.map_replicate]
  by_cases h : i < L
  · simp [h, Value.cells, Nat.mod_one]
  · simp [h]
/-- make([]byte, L). -/
theorem mk_bytes (L : Nat) (hL : L ≤ 140737488351232) (w : World) : (Instr.makeSlice 31 (.int .i64 (L : Int)) (.int .i64 (L : Int))).run Try.prog w = .ok (.slice (some ⟨w.heap.size, 0, none⟩) L L) (w.alloc (.cells (bcells (zeros L)).toArray 5)) := by
  obtain ⟨i0, hi, hz0, hz1, hz2⟩ := info_parts infoByte
  have h := run_make (P := Try.prog) w 31 5 i0 (.int .u8 0) Try.underlying31 hi hz0 .i64 .i64 (L : Int) (L : Int) (by omega) (Int.le_refl _) (by rw [hz2]; omega) (by omega)
  rw [hz1, Nat.mul_one, Int.toNat_natCast, made_zero] at h
  exact h
/-- So many bytes of what is left, or noughts where they are not there. -/
def tkD (n : Nat) (s : List UInt8 × Bool) : List UInt8 × (List UInt8 × Bool) := if s.2 = true ∧ n ≤ s.1.length then (s.1.take n, (s.1.drop n, true)) else (zeros n, (s.1, false))
theorem tkD_len (n : Nat) (s : List UInt8 × Bool) : (tkD n s).1.length = n := by
  unfold tkD
  split
  · rename_i h; rw [List.length_take]; omega
  · exact zeros_len n
theorem tkD_ok {n : Nat} {l a r : List UInt8} (h : tk n l = some (a, r)) : tkD n (l, true) = (a, (r, true)) := by
  unfold tk at h
  split at h
  · rename_i hn
    simp only [Option.some.injEq, Prod.mk.injEq] at h
    obtain ⟨rfl, rfl⟩ := h
    exact if_pos ⟨rfl, hn⟩
  · cases h
/-- A reader of the document's. -/
structure Rr (w : World) (F : Nat → Prop) (rb : Nat) (s : List UInt8 × Bool) : Prop where
  bv : ∃ v, w.cell? ⟨rb, 0, none⟩ = some v ∧ BV w F v s.1
  ok : w.cell? ⟨rb, 1, none⟩ = some (.bool s.2)
  fz : ∀ o, w.frozen? ⟨rb, o, none⟩ = false
  nF : ¬ F rb
theorem Rr.lt {w : World} {F : Nat → Prop} {rb : Nat} {s : List UInt8 × Bool} (h : Rr w F rb s) : rb < w.heap.size := cell_lt h.ok
theorem Rr.kp {w w' : World} {F : Nat → Prop} {rb : Nat} {s : List UInt8 × Bool} (h : Rr w F rb s) (K : Kp (fun k => F k ∨ k = rb) w w') : Rr w' F rb s := by
  have h1 := K rb h.lt (Or.inr rfl)
  obtain ⟨⟨v, c0, hb⟩, c1, fz, nF⟩ := h
  exact ⟨⟨v, (World.cell?_of_block (w := w) (a := ⟨rb, 0, none⟩) h1).trans c0, hb.kp (fun k hk hF => K k hk (Or.inl hF))⟩, (World.cell?_of_block (w := w) (a := ⟨rb, 1, none⟩) h1).trans c1, fun o => (World.frozen?_of_block (w := w) (a := ⟨rb, o, none⟩) h1).trans (fz o), nF⟩
theorem Rr.below {w w' : World} {F : Nat → Prop} {rb : Nat} {s : List UInt8 × Bool} (h : Rr w F rb s) (B : Below w.heap.size w w') : Rr w' F rb s := h.kp (fun k hk _ => B.block k hk)
theorem Rr.set0 {w : World} {F : Nat → Prop} {rb : Nat} {s : List UInt8 × Bool} {m : List UInt8} {v : Value} (h : Rr w F rb s) (hv : BV w F v m) : Rr (w.setCell ⟨rb, 0, none⟩ v) F rb (m, s.2) := by
  obtain ⟨⟨v0, c0, _⟩, c1, fz, nF⟩ := h
  refine ⟨⟨v, ?_, hv.kp (Kp.of_set nF)⟩, ?_, fun o => ?_, nF⟩
  · simp [go_sem, c0]
  · simp [go_sem, c1]
  · simp [go_sem, fz]
theorem Rr.set1 {w : World} {F : Nat → Prop} {rb : Nat} {s : List UInt8 × Bool} (h : Rr w F rb s) (b : Bool) : Rr (w.setCell ⟨rb, 1, none⟩ (.bool b)) F rb (s.1, b) := by
  obtain ⟨⟨v0, c0, hv⟩, c1, fz, nF⟩ := h
  refine ⟨⟨v0, ?_, hv.kp (Kp.of_set nF)⟩, ?_, fun o => ?_, nF⟩
  · simp [go_sem, c0]
  · simp [go_sem, c1]
  · simp [go_sem, fz]
/-- What a reading ends with: what was taken and what is left. -/
def rrEnd {α : Type} (P : World → Value → α → Prop) (F : Nat → Prop) (rb : Nat) (x : α × (List UInt8 × Bool)) (w : World) (e : Ending) (w' : World) : Prop :=
  ∃ v, e = .returned v ∧ P w' v x.1 ∧ Rr w' F rb x.2 ∧ Chg (· = rb) w w'
def bvP (rb : Nat) (w' : World) (v : Value) (a : List UInt8) : Prop := BV w' (· ≠ rb) v a
theorem dtake_no {w : World} {F : Nat → Prop} {rb n : Nat} {s : List UInt8 × Bool} (h : Rr w F rb s) (hT : tkD n s = (zeros n, (s.1, false))) (hn : n ≤ 70000) : rrEnd (bvP rb) F rb (tkD n s) w (.returned (.slice (some ⟨w.heap.size, 0, none⟩) n n)) ((w.setCell ⟨rb, 1, none⟩ (.bool false)).alloc (.cells (bcells (zeros n)).toArray 5)) := by
  rw [hT]
  have hs : (w.setCell ⟨rb, 1, none⟩ (.bool false)).heap.size = w.heap.size := by simp
  have O := own_lits (w.setCell ⟨rb, 1, none⟩ (.bool false)) (w.setCell ⟨rb, 1, none⟩ (.bool false)).heap.size (Nat.le_refl _) (zeros n) (bcells (zeros n)).toArray (by simp) (by rw [zeros_len]; unfold maxLen; omega)
  rw [zeros_len, hs] at O
  have B := alloc_below (w.setCell ⟨rb, 1, none⟩ (.bool false)) (.cells (bcells (zeros n)).toArray 5)
  have hlt := h.lt
  exact ⟨_, rfl, (O.bv (by rw [zeros_len]; omega)).mono (fun k _ hk => by show k ≠ rb; omega), (h.set1 false).below B, (Chg.setCell (F := (· = rb)) (p := ⟨rb, 1, none⟩) (Chg.refl _ _) (Or.inl rfl) _).trans (Chg.of_below B) (fun _ _ h => h)⟩
theorem dtake_yes {w : World} {F : Nat → Prop} {rb n L c : Nat} {s : List UInt8 × Bool} {p : Option Addr} {v2 : Value} (h : Rr w F rb s) (hT : tkD n s = (s.1.take n, (s.1.drop n, true))) (hk : s.2 = true) (hv : BV w F (.slice p L c) s.1) (hL : s.1.length = L) (hn : n ≤ s.1.length) (hq : BV w F v2 (s.1.drop n)) : rrEnd (bvP rb) F rb (tkD n s) w (.returned (.slice p n c)) (w.setCell ⟨rb, 0, none⟩ v2) := by
  subst hL
  rw [hT]
  have h2 := h.set0 hq
  rw [hk] at h2
  exact ⟨_, rfl, ((hv.cutL hn).kp (Kp.of_set h.nF)).mono (fun k _ hF => by rintro rfl; exact h.nF hF), h2, Chg.setCell (F := (· = rb)) (p := ⟨rb, 0, none⟩) (Chg.refl _ _) (Or.inl rfl) _⟩
set_option maxHeartbeats 2000000 in
theorem dtake_any {F : Nat → Prop} (rb n : Nat) (s : List UInt8 × Bool) (w : World) (hR : Rr w F rb s) (hn : n ≤ 70000) :
    Calls Try.prog 57 #[.pointer (some ⟨rb, 0, none⟩), .int .i64 (n : Int)] w (rrEnd (bvP rb) F rb (tkD n s) w) := by
  have HR := hid hR
  have hmk := fun w => mk_bytes n (by omega) w
  obtain ⟨⟨v, c0, hv⟩, c1, fz, nF⟩ := hR
  have f0 := fz 0
  have f1 := fz 1
  have HV := hid hv
  obtain ⟨p, c, rfl, hb, hc, hp, hl⟩ := hv
  clear hb nF fz
  obtain ⟨l, ok⟩ := s
  simp only at *
  cases ok
  · have HT : Hid (tkD n (l, false) = (zeros n, (l, false))) := if_neg (fun h => by simp at h)
    go_enter Try.func57, Try.ntmps57
    go_wp2
    go_ret
    exact dtake_no HR.out HT.out hn
  · by_cases h : n ≤ l.length
    · have HT : Hid (tkD n (l, true) = (l.take n, (l.drop n, true))) := if_pos ⟨rfl, h⟩
      clear hmk
      generalize hL : l.length = L at *
      have HL := hid hL
      clear hL
      go_enter Try.func57, Try.ntmps57
      go_wp2
      all_goals go_ret
      · rename_i h
        exact dtake_yes HR.out HT.out rfl (by rw [← h]; exact HV.out) HL.out (by rw [HL.out]; assumption) (by rw [← HL.out]; exact BV.cutE (c := c) (by rw [HL.out]; exact HV.out) (by rw [HL.out]; assumption) h)
      · rename_i h
        exact dtake_yes HR.out HT.out rfl HV.out HL.out (by rw [HL.out]; assumption) (by rw [← HL.out]; exact BV.cutR (by rw [HL.out]; exact HV.out) (by rw [HL.out]; assumption) h)
    · have HT : Hid (tkD n (l, true) = (zeros n, (l, false))) := if_neg (fun h' => h h'.2)
      have hgt : (n : Int) > (l.length : Int) := by omega
      go_enter Try.func57, Try.ntmps57
      go_wp2
      go_ret
      exact dtake_no HR.out HT.out hn
/-- A number of two bytes. -/
def twoD (s : List UInt8 × Bool) : Nat × (List UInt8 × Bool) := (leN (tkD 2 s).1, (tkD 2 s).2)
theorem leN_lt : ∀ l : List UInt8, leN l < 256 ^ l.length
  | [] => by simp [leN]
  | x :: r => by
    have := leN_lt r
    have := UInt8.toNat_lt x
    simp only [leN, List.length_cons, Nat.pow_succ]
    omega
theorem twoD_lt (s : List UInt8 × Bool) : (twoD s).1 < 65536 := by
  have := leN_lt (tkD 2 s).1
  rw [tkD_len] at this
  exact this
theorem twoD_ok {l r : List UInt8} {x : Nat} (h : p2 l = some (x, r)) : twoD (l, true) = (x, (r, true)) := by
  rw [← pN_two] at h
  unfold pN at h
  cases ht : tk 2 l with
  | none => rw [ht] at h; cases h
  | some y =>
    rw [ht] at h
    simp only [Option.map_some, Option.some.injEq, Prod.mk.injEq] at h
    obtain ⟨rfl, rfl⟩ := h
    unfold twoD
    rw [tkD_ok (a := y.1) (r := y.2) ht]
theorem bel_dn (w : World) (n : Nat) : Below w.heap.size w (w.drewN n) := ⟨rfl, rfl, rfl, Nat.le_refl _, fun _ _ => rfl⟩
def nmP (_ : World) (v : Value) (a : Nat) : Prop := v = .int .i64 (a : Int)
theorem two_list {l : List UInt8} (h : l.length = 2) : ∃ x y, l = [x, y] := by
  match l, h with
  | [x, y], _ => exact ⟨x, y, rfl⟩
theorem one_list {l : List UInt8} (h : l.length = 1) : ∃ x, l = [x] := by
  match l, h with
  | [x], _ => exact ⟨x, rfl⟩
set_option maxHeartbeats 2000000 in
theorem dtwo_any {F : Nat → Prop} (rb : Nat) (s : List UInt8 × Bool) (w : World) (hR : Rr w F rb s) :
    Calls Try.prog 58 #[.pointer (some ⟨rb, 0, none⟩)] w (rrEnd nmP F rb (twoD s) w) := by
  have T := hid (dtake_any rb 2 s w hR (by omega))
  rw [show ((2 : Nat) : Int) = 2 from rfl] at T
  unfold rrEnd bvP at T
  have HE : Hid (twoD s = (leN (tkD 2 s).1, (tkD 2 s).2)) := rfl
  obtain ⟨x, y, hxy⟩ := two_list (tkD_len 2 s)
  generalize tkD 2 s = t at *
  obtain ⟨t1, t2⟩ := t
  simp only at hxy T HE
  subst hxy
  unfold rrEnd nmP
  rw [HE.out]
  simp only [leN]
  have hx := UInt8.toNat_lt x
  have hy := UInt8.toNat_lt y
  clear hR HE
  go_enter Try.func58, Try.ntmps58
  go_upto_region 2 with (first
    | (go_at_call 57; with_reducible refine T.out.mono ?_; rintro e w2 ⟨v2, rfl, b2, r2, k2⟩; obtain ⟨p2', c2, hv2⟩ := b2.shape; subst hv2; obtain ⟨b, off, hp, _, g0⟩ := b2.at (i := 0) (by simp); subst hp; obtain ⟨b', off', hp, _, g1⟩ := b2.at (i := 1) (by simp); simp only [Option.some.injEq, Addr.mk.injEq, and_true] at hp; obtain ⟨rfl, rfl⟩ := hp; simp only [List.getElem_cons_zero, List.getElem_cons_succ, Nat.add_zero] at g0 g1; have HR2 := hid r2; have HC2 := hid k2; clear r2 k2 b2 T)
    | fail)
  generalize hX : x.toNat = X at *
  generalize hY : y.toNat = Y at *
  go_quiet (fail)
  go_wp2
  go_ret
  exact ⟨_, rfl, by rw [hX, hY]; simp, HR2.out.kp (fun k _ _ => rfl), HC2.out.trans (Chg.of_below (bel_dn w2 nq)) (fun _ _ h => h)⟩
/-- A key, with its length ahead of it. -/
def keyD (s : List UInt8 × Bool) : List UInt8 × (List UInt8 × Bool) := tkD (leN (tkD 1 s).1) (tkD 1 s).2
theorem keyD_len (s : List UInt8 × Bool) : (keyD s).1.length ≤ 255 := by
  unfold keyD
  rw [tkD_len]
  have := leN_lt (tkD 1 s).1
  rw [tkD_len] at this
  omega
theorem keyD_ok {l k r : List UInt8} (h : pKey l = some (k, r)) : keyD (l, true) = (k, (r, true)) := by
  unfold pKey at h
  rw [← pN_one] at h
  unfold pN at h
  cases ht : tk 1 l with
  | none => rw [ht] at h; cases h
  | some y =>
    rw [ht] at h
    simp only [Option.map_some, Option.bind_some] at h
    unfold keyD
    rw [tkD_ok (a := y.1) (r := y.2) ht]
    exact tkD_ok h
def frP (base : Nat) (w' : World) (v : Value) (a : List UInt8) : Prop := BV w' (base ≤ ·) v a
theorem chg_bel {F : Nat → Prop} {w w2 w' : World} (C : Chg F w w2) (B : Below w.heap.size w2 w') : Chg F w w' :=
  ⟨B.os.trans C.os, B.tape.trans C.tape, B.output.trans C.output, Nat.le_trans C.size B.size, fun j hj hn => (B.block j hj).trans (C.block j hj hn)⟩
theorem OwnB.chg {w w' : World} {base rb : Nat} {v : Value} {l : List UInt8} (o : OwnB w base v l) (C : Chg (· = rb) w w') (hb : rb < base) : OwnB w' base v l := rows_same o (fun k hk => C.block k (o.lt k hk).2 (by have := (o.lt k hk).1; omega))
/-- What is copied out of what was taken. -/
theorem copy_end {w w1 w' : World} {rb : Nat} {v' : Value} {a : List UInt8} {s : List UInt8 × Bool} (hrb : rb < w.heap.size) (C : Chg (· = rb) w w1) (R : Rr w1 (· < rb) rb s) (O : OwnB w' w.heap.size v' a) (B : Below w.heap.size w1 w') (ha : a.length ≤ 70000) : rrEnd (frP w.heap.size) (· < rb) rb (a, s) w (.returned v') w' :=
  ⟨_, rfl, O.bv (by omega), R.kp (fun k hk hF => B.block k (by rcases hF with h | h <;> omega)), chg_bel C B⟩
set_option maxHeartbeats 2000000 in
theorem dkey_any (rb : Nat) (s : List UInt8 × Bool) (w : World) (hR : Rr w (· < rb) rb s) :
    Calls Try.prog 59 #[.pointer (some ⟨rb, 0, none⟩)] w (rrEnd (frP w.heap.size) (· < rb) rb (keyD s) w) := by
  have hlt := hR.lt
  have HLt : Hid (rb < w.heap.size) := hlt
  have B0 := alloc_below w (.cells #[] 5)
  have HO := hid (own_empty w w.heap.size (Nat.le_refl _))
  have T := hid (dtake_any rb 1 s _ (hR.below B0) (by omega))
  rw [show ((1 : Nat) : Int) = 1 from rfl] at T
  have HK : Hid (keyD s = tkD (leN (tkD 1 s).1) (tkD 1 s).2) := rfl
  have HKl := hid (keyD_len s)
  unfold rrEnd bvP at T
  obtain ⟨x, hx⟩ := one_list (tkD_len 1 s)
  generalize tkD 1 s = t at *
  obtain ⟨t1, t2⟩ := t
  simp only at hx T HK
  subst hx
  have T2 := hid (fun w1 (R : Rr w1 (· < rb) rb t2) => dtake_any rb x.toNat t2 w1 R (by have := UInt8.toNat_lt x; omega))
  unfold rrEnd bvP at T2
  rw [show leN [x] = x.toNat by simp [leN]] at HK
  rw [HK.out] at HKl
  rw [HK.out]
  generalize tkD x.toNat t2 = u at *
  obtain ⟨a, s'⟩ := u
  simp only at T2 HKl
  have hx8 := UInt8.toNat_lt x
  have HC0 : Hid (Chg (· = rb) w (w.alloc (.cells #[] 5))) := Chg.of_below B0
  have HS0 : Hid (w.heap.size ≤ (w.alloc (.cells #[] 5)).heap.size) := B0.size
  have HLa : Hid (([] : List UInt8).length + a.length ≤ 140737488351232) := by show _ ≤ _; have := HKl.out; simp; omega
  clear hR HK
  go_enter Try.func59, Try.ntmps59
  generalize hX : x.toNat = X at *
  go_wp2_with (first
    | (go_at_call 57; with_reducible refine T.out.mono ?_; rintro e w2 ⟨v2, rfl, b2, r2, k2⟩; obtain ⟨p2', c2, hv2⟩ := b2.shape; subst hv2; obtain ⟨b, off, hp, _, g0⟩ := b2.at (i := 0) (by simp); subst hp; simp only [List.getElem_cons_zero, Nat.add_zero, hX] at g0; have HC2 := hid (HC0.out.trans k2 (fun _ _ h => h)); have HO2 := hid (HO.out.chg k2 HLt.out); have T2' := hid (T2.out w2 r2); clear r2 k2 b2 T)
    | (go_at_call 57; with_reducible refine T2'.out.mono ?_; rintro e w3 ⟨v3, rfl, b3, r3, k3⟩; obtain ⟨p3, c3, hv3⟩ := b3.shape; subst hv3; have HC3 := hid (HC2.out.trans k3 (fun _ _ h => h)); have HO3 := hid (HO2.out.chg k3 HLt.out); have HV3 := hid b3; have HR3 := hid r3; clear r3 k3 b3 T2')
    | (at_builtin; obtain ⟨v4, w4, hr, O4, P4, B4⟩ := run_appY 31 HO3.out HV3.out HLa.out HC3.out.size; refine wl_run rfl rfl rfl rfl hr ?_; have HO4 := hid O4; have HB4 := hid B4; clear hr O4 P4 B4)
    | fail)
  go_ret
  exact copy_end HLt.out HC3.out HR3.out HO4.out HB4.out (by have := HKl.out; omega)
end Go.Proofs.Ytilmlegkkgiahaa
