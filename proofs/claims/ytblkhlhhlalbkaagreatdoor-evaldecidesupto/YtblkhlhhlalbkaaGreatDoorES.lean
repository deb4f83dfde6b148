/- What Same of package expr answers of any expressions. Conditions: lists within the reach. What IndexFunc finds among the known expressions. Conditions: lists within the reach. -/
import Derived.Test.YtblkhlhhlalbkaaGreatDoorEvMem
import Derived.Test.YtblkhlhhlalbkaaGreatDoorEL
namespace Go.Proofs.YtblkhlhhlalbkaaGreatDoor
open Go.RowKit Go.Lib Go.Sort
set_option linter.unusedVariables false
set_option maxRecDepth 20000

theorem fldG_false {a b : Gx} (h : ¬ (a.k = b.k ∧ a.op = b.op ∧ a.v.k = b.v.k ∧ a.v.n = b.v.n ∧ a.v.s.toList = b.v.s.toList ∧ a.t = b.t ∧ a.n = b.n)) : fldG a b = false := by
  rw [Bool.eq_false_iff]
  intro q
  simp only [fldG, Bool.and_eq_true, beq_iff_eq, Val.eqb, eqv] at q
  exact h ⟨q.1.1.1.1, q.1.1.1.2, q.1.1.2.1, q.1.1.2.2.1, by rw [ByteArray.toList_eq, ByteArray.toList_eq]; exact q.1.1.2.2.2, q.1.2, q.2⟩
theorem fldG_true {a b : Gx} (h : a.k = b.k ∧ a.op = b.op ∧ a.v.k = b.v.k ∧ a.v.n = b.v.n ∧ a.v.s.toList = b.v.s.toList ∧ a.t = b.t ∧ a.n = b.n) : fldG a b = true := by
  obtain ⟨h1, h2, h3, h4, h5, h6, h7⟩ := h
  rw [ByteArray.toList_eq, ByteArray.toList_eq] at h5
  simp [fldG, Val.eqb, eqv, h1, h2, h3, h4, h5, h6, h7]
def EvSameF (f : Gx → Gx → Bool) (m : Nat) : Prop := ∀ (w : World) (x y : Gx) (px py : Option Addr) (cx cy : Nat), GAt w m x px → GAt w m y py →
  Calls Tryz.prog 40 #[gV x px cx, gV y py cy] w fun e w' => Below w.heap.size w w' ∧ e = .returned (.bool (f x y))
abbrev EvSameOk (m : Nat) : Prop := EvSameF (smN m) m
theorem smL_ne {f : Gx → Gx → Bool} {a b : List Gx} (h : a.length ≠ b.length) : smL f a b = false := by
  rw [Bool.eq_false_iff]
  exact fun q => h (smL_len q)
theorem smL_no {f : Gx → Gx → Bool} {a b : List Gx} {i : Nat} (h : i < a.length) (h' : i < b.length) (hn : f a[i] b[i] = false) : smL f a b = false := by
  by_cases hl : a.length = b.length
  · rw [Bool.eq_false_iff]
    intro q
    have := (smL_at hl).1 q i h h'
    rw [hn] at this
    cases this
  · exact smL_ne hl
set_option maxHeartbeats 8000000 in
theorem evEqual_any (f : Gx → Gx → Bool) (m : Nat) (w : World) (xs ys : List Gx) (px py : Option Addr) (cx cy : Nat) (hx : RowG w m px xs) (hy : RowG w m py ys) (hS : xs ≠ [] → EvSameF f m) :
    Calls Tryz.prog 61 #[.slice px xs.length cx, .slice py ys.length cy, .func (.func 40) #[] #[]] w fun e w' => Below w.heap.size w w' ∧ e = .returned (.bool (smL f xs ys)) := by
  have hlen := hx.len
  by_cases hl : xs.length = ys.length
  · have HX := hid hx
    have HY := hid hy
    have HS := hid hS
    have HL := hid hl
    obtain ⟨R, hR⟩ : ∃ R, R = smL f xs ys := ⟨_, rfl⟩
    rw [← hR]
    have HR0 := hid hR
    have hli : ((ys.length : Int) = (xs.length : Int)) := by omega
    rw [← hl]
    clear hx hy hS hl hli hR
    go_enter Tryz.func61, Tryz.ntmps61
    go_wp2_with fail
    go_loopw [17] (fun i wr => ∃ k : Nat, k ≤ xs.length ∧ i = .int .i64 (k : Int) ∧ Below w.heap.size w wr ∧ ∀ j (h : j < xs.length) (h' : j < ys.length), j < k → f xs[j] ys[j] = true) (fun i _ => xs.length - (RowKit.intOf i).toNat)
    case atStart => exact ⟨0, Nat.zero_le _, rfl, Below.refl _ _, fun j _ _ h => absurd h (Nat.not_lt_zero _)⟩
    case round =>
      obtain ⟨k, hk, rfl, hbw, hno⟩ := hrel
      have HB := hid hbw
      have HN := hid hno
      have hsz := hbw.size
      clear hbw hno
      by_cases hkx : k < xs.length
      · have hky : k < ys.length := by have := HL.out; omega
        obtain ⟨bx, ox, qx, ccx, rfl, X, EX⟩ := (HX.out.below HB.out).at hkx
        obtain ⟨by', oy, qy, ccy, rfl, Y, EY⟩ := (HY.out.below HB.out).at hky
        have hbx : bx < wr.heap.size := cell_lt X.1
        have hby : by' < wr.heap.size := cell_lt Y.1
        have hbx1 : bx < wr.heap.size + 1 := by omega
        have hby1 : by' < wr.heap.size + 1 := by omega
        have HEX := hid EX
        have HEY := hid EY
        have hkI : (k : Int) < (xs.length : Int) := by omega
        have hk0 : (0 : Int) ≤ (k : Int) := by omega
        obtain ⟨x0, x1, x2, x3, x4, x5, x6, x7, x8, x9⟩ := X
        obtain ⟨y0, y1, y2, y3, y4, y5, y6, y7, y8, y9⟩ := Y
        have HSX := hid (HS.out (fun h => by rw [h] at hkx; simp at hkx))
        obtain ⟨r, hr⟩ : ∃ r, r = f xs[k] ys[k] := ⟨_, rfl⟩
        have HR := hid hr
        have HNO := hid (fun (q : f xs[k] ys[k] = false) => smL_no hkx hky q)
        rw [← hr] at HNO
        have HHR : Hid (∀ j (h : j < xs.length) (h' : j < ys.length), j = k → f xs[j] ys[j] = r) := fun j h h' e => by subst e; exact hr.symm
        have HCS := hid (fun w' (B : Below wr.heap.size wr w') => HSX.out w' xs[k] ys[k] qx qy ccx ccy (HEX.out.below B) (HEY.out.below B))
        rw [← hr] at HCS
        clear EX EY hr HR
        generalize xs[k] = x at *
        generalize ys[k] = y at *
        have HAL := hid (fun (o1 o2 : Obj) => ((Below.refl wr.heap.size wr).alloc (Nat.le_refl _) o1).alloc (by simp) o2)
        cases r
        · go_wp2_with (first
            | (go_at_call 40; go_loud (with_reducible refine (HCS.out _ (HAL.out _ _)).mono ?_); rintro e2 w2 ⟨b2, rfl⟩; have B2 := hid (HB.out.trans (((HAL.out _ _).trans (b2.mono (by simp; omega))).mono hsz)); clear b2)
            | fail)
          go_ret
          refine ⟨B2.out, (show _ = Ending.returned (.bool false) from rfl).trans ?_⟩
          rw [HR0.out, HNO.out trivial]
        · go_wp2_with (first
            | (go_at_call 40; go_loud (with_reducible refine (HCS.out _ (HAL.out _ _)).mono ?_); rintro e2 w2 ⟨b2, rfl⟩; have B2 := hid (HB.out.trans (((HAL.out _ _).trans (b2.mono (by simp; omega))).mono hsz)); clear b2)
            | fail)
          go_roundw
          case rel => exact ⟨k + 1, by omega, by go_num, B2.out, fun j h h' hj => by
            by_cases e : j = k
            · exact HHR.out j h h' e
            · exact HN.out j h h' (by omega)⟩
          case measure => simp [RowKit.intOf]; omega
      · have hkI : ¬ (k : Int) < (xs.length : Int) := by omega
        go_wp2_with fail
        go_ret
        refine ⟨HB.out, (show _ = Ending.returned (.bool true) from rfl).trans ?_⟩
        rw [HR0.out, (smL_at HL.out).2 (fun j h h' => HN.out j h h' (by omega))]
  · have hne : ¬ (xs.length : Int) = (ys.length : Int) := by omega
    rw [smL_ne hl]
    clear hx hy hl
    go_enter Tryz.func61, Tryz.ntmps61
    go_wp2_with fail
    all_goals go_ret
    all_goals exact ⟨Below.refl _ _, rfl⟩
set_option maxHeartbeats 16000000 in
theorem evSame_core (f : Gx → Gx → Bool) (m : Nat) (w : World) (x y : Gx) (px py : Option Addr) (cx cy : Nat) (RX : RowG w m px x.xs) (RY : RowG w m py y.xs) (hS : x.xs ≠ [] → EvSameF f m) :
    Calls Tryz.prog 40 #[gV x px cx, gV y py cy] w fun e w' => Below w.heap.size w w' ∧ e = .returned (.bool (fldG x y && smL f x.xs y.xs)) := by
  have hlen := RX.len
  have HE := hid (fun w' (B : Below w.heap.size w w') => evEqual_any f m w' x.xs y.xs px py cx cy (RX.below B) (RY.below B) hS)
  have HF := hid (fun h => fldG_false (a := x) (b := y) h)
  have HT := hid (fun h => fldG_true (a := x) (b := y) h)
  clear RX RY hS
  generalize smL f x.xs y.xs = rl at *
  generalize fldG x y = fl at *
  go_enter Tryz.func40, Tryz.ntmps40
  go_wp2_with (first
    | (go_at_call 61; go_loud (with_reducible refine (HE.out _ (((Below.refl w.heap.size w).alloc (Nat.le_refl _) _).alloc (by simp) _)).mono ?_); rintro e2 w2 ⟨b2, rfl⟩; have HB2 := hid b2; clear b2)
    | fail)
  all_goals go_ret
  · refine ⟨((Below.refl w.heap.size w).alloc (Nat.le_refl _) _).alloc (by simp) _ |>.trans (HB2.out.mono (by simp; omega)), (show _ = Ending.returned (.bool rl) from rfl).trans ?_⟩
    rw [HT.out (by simp_all)]
    rfl
  all_goals
    refine ⟨((Below.refl w.heap.size w).alloc (Nat.le_refl _) _).alloc (by simp) _, (show _ = Ending.returned (.bool false) from rfl).trans ?_⟩
    rw [HF.out (by simp_all)]
    rfl
theorem evSame_all : ∀ m, EvSameOk m
  | 0 => fun w x y px py cx cy hx hy => evSame_core (fun _ _ => false) 0 w x y px py cx cy (gat_nil 0 hx) (gat_nil 0 hy) (fun h => absurd hx h)
  | m + 1 => fun w x y px py cx cy hx hy => evSame_core (smN m) m w x y px py cx cy hx hy (fun _ => evSame_all m)
theorem gat_dp {w : World} : ∀ {m : Nat} {e : Gx} {p : Option Addr}, GAt w m e p → DpN m e
  | 0, e, p, h => h
  | m + 1, e, p, h => fun x hx => by
    obtain ⟨i, hi, rfl⟩ := List.getElem_of_mem hx
    obtain ⟨_, _, q, c, _, _, g⟩ := (gat_row h).at hi
    exact gat_dp g
end Go.Proofs.YtblkhlhhlalbkaaGreatDoor
namespace Go.Proofs.YtblkhlhhlalbkaaGreatDoor
open Go.RowKit Go.Lib Go.Sort
set_option linter.unusedVariables false
set_option maxRecDepth 20000

theorem enters_is (args : Array Value) (w : World) : (callFunc 39 args).run Tryz.prog w = .ok (.enter 39 args) w := by
  first | (simp [go_sem]; done) | kernel_rfl
set_option maxHeartbeats 4000000 in
theorem is_any (m : Nat) (k e : Gx) (v : Val) (pk pe : Option Addr) (ck ce eb : Nat) (w : World) (hk : GAt w m k pk) (he : GAt w m e pe) (hb : BGx w eb e pe ce) :
    Calls Tryz.prog 39 #[.agg #[.int .i64 k.k, .int .i64 k.op, .int .i64 k.v.k, .int .i64 k.v.n, .string k.v.s, .string ⟨k.t.toArray⟩, .string ⟨k.n.toArray⟩, .int .i64 k.c, .int .i64 k.y, .slice pk k.xs.length ck, .int .i64 v.k, .int .i64 v.n, .string v.s], .pointer (some ⟨eb, 0, none⟩)] w fun r w' => r = .returned (.bool (smN m k e)) ∧ Below w.heap.size w w' := by
  have B := albl' w (.cells #[.int .i64 k.k, .int .i64 k.op, .int .i64 k.v.k, .int .i64 k.v.n, .string k.v.s, .string ⟨k.t.toArray⟩, .string ⟨k.n.toArray⟩, .int .i64 k.c, .int .i64 k.y, .slice pk k.xs.length ck, .int .i64 v.k, .int .i64 v.n, .string v.s] 38)
  have K := hid (fun w' (b : Below w.heap.size w w') => evSame_all m w' k e pk pe ck ce (hk.below b) (he.below b))
  have HX := hid (hb.below B)
  have hXl := HX.out.lt
  have hl := hb.lt
  obtain ⟨x0, x1, x2, x3, x4, x5, x6, x7, x8, x9⟩ := HX.out.cells
  have T := hid (K.out _ B)
  have HB := hid B
  clear B K hk he hb
  go_enter Tryz.func39, Tryz.ntmps39
  go_wp2_with (first
    | (go_at_call 40; with_reducible refine T.out.mono ?_; rintro r w2 ⟨b2, rfl⟩; have HB2 := hid b2; clear b2)
    | fail)
  go_ret
  exact ⟨rfl, HB.out.trans (HB2.out.mono HB.out.size)⟩
/-- How the finding ends. -/
def FindE (m : Nat) (kn : List (Gx × Val)) (e : Gx) (r : Ending) : Prop := (r = .returned (.int .i64 (-1)) ∧ kn.find? (fun q => smN m q.1 e) = none) ∨ (∃ k, ∃ h : k < kn.length, r = .returned (.int .i64 (k : Int)) ∧ kn.find? (fun q => smN m q.1 e) = some kn[k] ∧ k = kn.findIdx (fun q => smN m q.1 e))
theorem find_at {m : Nat} {kn : List (Gx × Val)} {e : Gx} {k : Nat} (h : k < kn.length) (hk : smN m kn[k].1 e = true) (hn : ∀ j (h : j < kn.length), j < k → smN m kn[j].1 e = false) : kn.find? (fun q => smN m q.1 e) = some kn[k] ∧ k = kn.findIdx (fun q => smN m q.1 e) := by
  refine ⟨?_, ?_⟩
  · rw [List.find?_eq_some_iff_getElem]
    exact ⟨hk, k, h, rfl, fun j hj => by rw [hn j (by omega) hj]; rfl⟩
  · exact ((List.findIdx_eq h).2 ⟨hk, fun j hj => hn j (by omega) hj⟩).symm
theorem find_no {m : Nat} {kn : List (Gx × Val)} {e : Gx} (hn : ∀ j (h : j < kn.length), smN m kn[j].1 e = false) : kn.find? (fun q => smN m q.1 e) = none := by
  rw [List.find?_eq_none]
  intro q hq
  obtain ⟨j, h, rfl⟩ := List.getElem_of_mem hq
  rw [hn j h]
  decide
set_option maxHeartbeats 8000000 in
theorem find_any (m : Nat) (kn : List (Gx × Val)) (e : Gx) (pk pe : Option Addr) (ck ce eb : Nat) (w : World) (hk : KnR w m pk kn) (he : GAt w m e pe) (hb : BGx w eb e pe ce) :
    Calls Tryz.prog 41 #[.slice pk kn.length ck, .func (.func 39) #[] #[.pointer (some ⟨eb, 0, none⟩)]] w fun r w' => FindE m kn e r ∧ Below w.heap.size w w' := by
  have hlen := hk.len
  have HK := hid hk
  have HE := hid he
  have HBX := hid hb
  have hen := enters_is
  clear hk he hb
  go_enter Tryz.func41, Tryz.ntmps41
  go_wp2_with fail
  go_loopw [8] (fun i wr => ∃ k : Nat, k ≤ kn.length ∧ i = .int .i64 (k : Int) ∧ Below w.heap.size w wr ∧ ∀ j (h : j < kn.length), j < k → smN m kn[j].1 e = false) (fun i _ => kn.length - (RowKit.intOf i).toNat)
  case atStart => exact ⟨0, Nat.zero_le _, rfl, Below.refl _ _, fun j _ h => absurd h (Nat.not_lt_zero _)⟩
  case round =>
    obtain ⟨k, hk, rfl, hbw, hno⟩ := hrel
    have HB := hid hbw
    have HN := hid hno
    have hsz := hbw.size
    clear hbw hno
    by_cases hkx : k < kn.length
    · obtain ⟨bx, ox, qx, ccx, rfl, X, V, EX⟩ := (HK.out.below HB.out).at hkx
      have hbx : bx < wr.heap.size := cell_lt X.1
      have hkI : (k : Int) < (kn.length : Int) := by omega
      have hk0 : (0 : Int) ≤ (k : Int) := by omega
      obtain ⟨x0, x1, x2, x3, x4, x5, x6, x7, x8, x9⟩ := X
      obtain ⟨v0, v1, v2⟩ := V
      have HT := hid (is_any m kn[k].1 e kn[k].2 qx pe ccx ce eb wr EX (HE.out.below HB.out) (HBX.out.below HB.out))
      have HF := hid (fun (q : smN m kn[k].1 e = true) => find_at hkx q HN.out)
      obtain ⟨r, hr⟩ : ∃ r, r = smN m kn[k].1 e := ⟨_, rfl⟩
      rw [← hr] at HT HF
      have HHR : Hid (∀ j (h : j < kn.length), j = k → smN m kn[j].1 e = r) := fun j h e => by subst e; exact hr.symm
      have HFE : Hid (r = true → FindE m kn e (.returned (.int .i64 (k : Int)))) := fun q => Or.inr ⟨k, hkx, rfl, (HF.out q).1, (HF.out q).2⟩
      clear EX hr HF
      generalize kn[k].1 = x at *
      generalize kn[k].2 = y at *
      cases r
      · go_wp2_with (first
          | (go_at_call 39; go_loud (with_reducible refine HT.out.mono ?_); rintro e2 w2 ⟨rfl, b2⟩; have B2 := hid (HB.out.trans (b2.mono hsz)); clear b2)
          | fail)
        go_roundw
        case rel => exact ⟨k + 1, by omega, by go_num, B2.out, fun j h hj => by
          by_cases e : j = k
          · exact HHR.out j h e
          · exact HN.out j h (by omega)⟩
        case measure => simp [RowKit.intOf]; omega
      · go_wp2_with (first
          | (go_at_call 39; go_loud (with_reducible refine HT.out.mono ?_); rintro e2 w2 ⟨rfl, b2⟩; have B2 := hid (HB.out.trans (b2.mono hsz)); clear b2)
          | fail)
        go_ret
        exact ⟨HFE.out trivial, B2.out⟩
    · have hkI : ¬ (k : Int) < (kn.length : Int) := by omega
      have HFN : Hid (FindE m kn e (.returned (.int .i64 (-1)))) := Or.inl ⟨rfl, find_no (fun j h => HN.out j h (by omega))⟩
      go_wp2_with fail
      go_ret
      exact ⟨HFN.out, HB.out⟩
end Go.Proofs.YtblkhlhhlalbkaaGreatDoor
