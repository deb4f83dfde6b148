/- The walk of DiskBytes. No conditions. -/
import Derived.Test.YtfgcjcffplglhaaDkMayE
namespace Go.Proofs.Ytfgcjcffplglhaa
open Go.RowKit
set_option linter.unusedVariables false

/-- append at a step of a region that draws its order, its run known. -/
theorem step_append_run {ops : Array Oper} {o : Oper} {a : Act} {w : World} {K : Act → World → Prop} {Q : Exit → Act → World → Prop} {E : Prop} (hgd : o.guard = none) (s x : Operand) (t : TypeId)
    (ho : o.op = .call { callee := .builtin .append, args := #[s, x], argTypes := #[t, t] }) (vs vx : Value) (hs : a.eval s = vs) (hx : a.eval x = vx) (v' : Value) (w' : World) (hr : (Builtin.append_ #[t, t] o.type #[vs, vx]).run Try.prog w = .ok v' w')
    (h : K (a.put o.dst v') w') : if Region.wanted o (yielded ops a.tmps) = true then Oper.wp Try.prog o a w K Q else E := by
  have hw : Region.wanted o (yielded ops a.tmps) = true := by simp [Region.wanted, hgd]
  rw [if_pos hw]
  unfold Oper.wp execOp
  simp only [ho, resolve, invoke, builtin, Sem.run_bind, Sem.run_pure, Result.andThen_ok, List.map_toArray, List.map_cons, List.map_nil, hs, hx, hr]
  exact h

set_option maxRecDepth 20000 in
set_option maxHeartbeats 4000000 in
theorem dbytes_walk (l : List Opx) (keep : List Bool) (torn cut : Int) (lp kp : Option Addr) (lc kc : Nat) (w : World) (hl : l.length ≤ maxLen) (hL : Ops w lp l) (hK : Bits w kp keep) :
    Calls Try.prog 5 #[.slice lp l.length lc, .slice kp keep.length kc, .int .i64 torn, .int .i64 cut] w fun e w' => e = .returned (.bool true) ∧ Below w.heap.size w w' := by
  have HWk := hid (works_any w)
  have HL := hid hL
  have HK := hid hK
  clear hL hK
  have HNw : Hid (∀ w1 : World, Calls Try.prog 9 #[.int .i64 3] w1 fun e w' => e = .returned (.tuple #[.pointer (some ⟨w1.heap.size + 2, 0, none⟩), .int .i64 0]) ∧ PD w' (w1.heap.size + 2) (fun k => w1.heap.size ≤ k ∧ k < w'.heap.size) (Dk.fresh 3) ∧ w'.heap.size = w1.heap.size + 3 ∧ Below w1.heap.size w1 w') := fun w1 => newD 3 w1 (by omega) (by omega)
  go_enter Try.func5, Try.ntmps5
  go_wp2_with (first
    | (go_at_call 24; (with_reducible refine HWk.out.mono ?_); rintro e w1 ⟨rfl, B1⟩; have HB1 := hid B1; clear B1 HWk)
    | (go_at_call 9; (with_reducible refine (HNw.out _).mono ?_); rintro e w2 ⟨rfl, P2, S2, B2⟩; have HQ2 := hid (QP.start P2 B2 HB1.out.size HB1.out); clear P2 S2 B2)
    | fail)
  clear HNw
  generalize w1.heap.size + 2 = db at *
  have HW2 := hid (BW.start (ps := []) (M := mayOf (Dk.fresh 3)) HQ2.out)
  clear HQ2
  generalize w2.heap.size = mb at *
  go_loopw [12] (fun i wr => ∃ (k : Nat) (vs : List Value) (Z : Nat → Prop), i = .int .i64 (k : Int) ∧ k ≤ 3 ∧ BW w.heap.size w wr db (Dk.fresh 3) mb vs k (mayOf (Dk.fresh 3)) Z) (fun i _ => 3 - (RowKit.intOf i).toNat)
  case atStart => exact ⟨0, _, _, rfl, by omega, HW2.out⟩
  case round =>
    clear HW2
    obtain ⟨k, vs, Z, rfl, hk, hW⟩ := hrel
    have HW := hid hW
    by_cases hx : k < 3
    · have HN := hid (hW.init hx (zeros 512))
      rw [may_fresh_set] at HN
      obtain ⟨v0, e0, c0, f0⟩ := BW.cellAt ((hW.grow ((Below.refl _ _).alloc (Nat.le_refl _) (.cells (bcells (zeros 512)).toArray 5))).grow ((Below.refl _ _).alloc (Nat.le_refl _) (.cells #[.slice (some ⟨wr.heap.size, 0, none⟩) 512 512] 30))) hx
      have hmk := mk512
      have hk3 : (k : Int) < 3 := by omega
      clear hW e0
      go_wp2
      go_roundw
      case rel => exact ⟨k + 1, _, _, by go_num, by omega, HN.out⟩
      case measure => simp [RowKit.intOf]; omega
    · have hkz : (k : Int) = 3 := by omega
      rw [hkz]
      clear hkz
      obtain rfl : k = 3 := by omega
      clear hk hx hW
      go_wp2
      have HS0 : Hid (BytAt (Dk.fresh 3) 0) := ⟨rfl, Nat.le_refl _⟩
      go_loopw [13] (fun i wr => ∃ (k : Nat) (d : Dk) (vs : List Value) (Z : Nat → Prop), i = .int .i64 (k : Int) ∧ k ≤ 60 ∧ BW w.heap.size w wr db d mb vs 3 (mayOf d) Z ∧ BytAt d k) (fun i _ => 60 - (RowKit.intOf i).toNat)
      case atStart => exact ⟨0, _, _, _, rfl, by omega, HW.out, HS0.out⟩
      case round =>
        clear HW HS0
        obtain ⟨k, d, vs, Z, rfl, hk, hW, hS⟩ := hrel
        have HW := hid hW
        have HS := hid hS
        have hBw := hW.dw.bel
        by_cases hx : k < l.length ∧ k < 60
        · obtain ⟨hx1, hx2⟩ := hx
          obtain ⟨g, off, rfl, bp, bc, kp2, kc2, z0, z1, z2, z3, z4, z5, z6, z7, hby, _, hnb, _⟩ := HL.out.at hx1
          have fc : ∀ {j v}, w.cell? ⟨g, j, none⟩ = some v → wr.cell? ⟨g, j, none⟩ = some v := fun {j v} hc => (World.cell?_of_block (w := w) (a := ⟨g, j, none⟩) (hBw.block g (cell_lt hc))).trans hc
          have c0 := fc z0
          have c1 := fc z1
          have c2 := fc z2
          have c3 := fc z3
          have c4 := fc z4
          have c5 := fc z5
          have c6 := fc z6
          have c7 := fc z7
          have HBy := hid hby
          clear z0 z1 z2 z3 z4 z5 z6 z7 fc hby
          have hx2' : (k : Int) < 60 := by omega
          obtain ⟨r, hr⟩ : ∃ r, wrap64 ((IntKind.u64.wrap l[k].n).tmod 3) = r := ⟨_, rfl⟩
          have hrb := umod_bd l[k].n 3 (by omega) (by omega)
          rw [hr] at hrb
          obtain ⟨hr0, hr1⟩ := hrb
          have hr' : IntKind.i64.wrap ((IntKind.u64.wrap l[k].n).tmod 3) = r := by rw [IntKind.wrap_i64]; rw [← hr]; unfold wrap64; omega
          obtain ⟨N, rfl⟩ : ∃ N : Nat, r = (N : Int) := ⟨r.toNat, by omega⟩
          have HI : Hid ((Try.prog.info? 33).map (·.size) = some (#[Value.int .i64 l[k].kind, .int .i64 l[k].n, .int .u8 (l[k].fill.toNat : Int), .slice bp l[k].b.length bc, .bool l[k].long, .slice kp2 l[k].keep.length kc2, .int .i64 l[k].torn, .int .i64 l[k].cut] : Array Value).size) := sizeOp
          have HO : Hid ((#[Value.int .i64 l[k].kind, .int .i64 l[k].n, .int .u8 (l[k].fill.toNat : Int), .slice bp l[k].b.length bc, .bool l[k].long, .slice kp2 l[k].keep.length kc2, .int .i64 l[k].torn, .int .i64 l[k].cut] : Array Value).all (·.oneCell') = true) := by
            show _ = _
            refine Array.all_eq_true_iff_forall_mem.2 (fun v hv => ?_)
            simp only [List.mem_toArray, List.mem_cons, List.not_mem_nil, or_false] at hv
            rcases hv with rfl | rfl | rfl | rfl | rfl | rfl | rfl | rfl <;> rfl
          have HBB : Hid (Below wr.heap.size wr (wr.alloc (.cells #[Value.int .i64 l[k].kind, .int .i64 l[k].n, .int .u8 (l[k].fill.toNat : Int), .slice bp l[k].b.length bc, .bool false, .slice kp2 l[k].keep.length kc2, .int .i64 l[k].torn, .int .i64 l[k].cut] 33))) := (Below.refl _ _).alloc (Nat.le_refl _) _
          by_cases hk1 : l[k].kind = 1
          · have HBo := hid (Blk.new wr [Value.int .i64 l[k].kind, .int .i64 l[k].n, .int .u8 (l[k].fill.toNat : Int), .slice bp l[k].b.length bc, .bool false, .slice kp2 l[k].keep.length kc2, .int .i64 l[k].torn, .int .i64 l[k].cut] 33)
            obtain ⟨Z3, HW3, HZo⟩ : ∃ Z3, Hid (BW w.heap.size w (wr.alloc (.cells #[Value.int .i64 l[k].kind, .int .i64 l[k].n, .int .u8 (l[k].fill.toNat : Int), .slice bp l[k].b.length bc, .bool false, .slice kp2 l[k].keep.length kc2, .int .i64 l[k].torn, .int .i64 l[k].cut] 33)) db d mb vs 3 (mayOf d) Z3) ∧ Hid (Z3 wr.heap.size) := ⟨_, hW.add HBB.out, Or.inr ⟨Nat.le_refl _, HBo.out.lt⟩⟩
            have HB3 := hid (HBy.out.kept (fun k hk => HW3.out.dw.bel.block k hk))
            have HPg : Hid (∀ w5 : World, Byts w5 bp l[k].b → Calls Try.prog 27 #[.agg #[Value.int .i64 l[k].kind, .int .i64 l[k].n, .int .u8 (l[k].fill.toNat : Int), .slice bp l[k].b.length bc, .bool false, .slice kp2 l[k].keep.length kc2, .int .i64 l[k].torn, .int .i64 l[k].cut]] w5 fun e w' => e = .returned (.slice (some ⟨w5.heap.size + 1, 0, none⟩) 512 512) ∧ Blk w' (w5.heap.size + 1) (bcells (pageM l[k].fill l[k].b 512)) 5 ∧ Below w5.heap.size w5 w' ∧ w'.heap.size = w5.heap.size + 2) := fun w5 hb => page_512 _ _ _ bp _ bc _ _ _ w5 hb
            have HPL : Hid ((pageM l[k].fill l[k].b 512).length = 512) := pageM_len ..
            rw [hk1] at c0 HI HO HBB HBo HW3 HPg HB3
            generalize l[k].n = ln at *
            generalize l[k].fill = lf at *
            generalize l[k].b = lb0 at *
            generalize l[k].long = lo at *
            generalize l[k].keep = lke at *
            generalize l[k].torn = lt at *
            generalize l[k].cut = lcu at *
            generalize pageM lf lb0 512 = pgm at *
            obtain ⟨x, hxe⟩ : ∃ x, d.wrErr (N : Int) pgm = x := ⟨_, rfl⟩
            have HWr : Hid (∀ (w4 : World) (g4 : Nat) Z3, BW w.heap.size w w4 db d mb vs 3 (mayOf d) Z3 → g4 ≠ db → Blk w4 g4 (bcells pgm) 5 → Calls Try.prog 12 #[.pointer (some ⟨db, 0, none⟩), .int .i64 (N : Int), .slice (some ⟨g4, 0, none⟩) 512 512] w4 fun e w' => e = .returned (.int .i64 x) ∧ BW w.heap.size w w' db (d.wr (N : Int) pgm) mb vs 3 (mayOf d) Z3 ∧ Kept (old w.heap.size Z3) w4 w') := fun w4 g4 Z3 W hne b => by
              have t := W.dw.write (N : Int) (some ⟨g4, 0, none⟩) _ 512 b.byts (fun g' o' e => by simp only [Option.some.injEq, Addr.mk.injEq] at e; rw [← e.1]; exact Or.inr (Or.inr hne)) (by have := HS.out.len; omega)
              rw [HPL.out, hxe] at t
              exact t.mono (fun e w' ⟨a, b, c⟩ => ⟨a, W.disk b c, c⟩)
            have HSZ : Hid ((wr.alloc (.cells #[Value.int .i64 1, .int .i64 ln, .int .u8 (lf.toNat : Int), .slice bp lb0.length bc, .bool false, .slice kp2 lke.length kc2, .int .i64 lt, .int .i64 lcu] 33)).heap.size = wr.heap.size + 1) := by show _ = _; simp
            have HDB : Hid (db < wr.heap.size) := hW.dw.pd.lt
            have HP3 := hid (HPg.out _ HB3.out)
            clear hW hS hBw
            by_cases hx0 : x = 0
            · subst hx0
              obtain ⟨HSn, HMn⟩ := HS.out.wrGoes hxe
              have HSn := hid HSn
              have HMn := hid HMn
              clear hxe
              obtain ⟨vN, hvN, _, _⟩ := HW.out.cellAt (k := N) (by omega)
              have HvN := hid hvN
              clear hvN
              go_wp2_with (first
                | (refine wl_store_new rfl 33 _ _ rfl _ _ _ rfl ?hg rfl ?hi ?hj ?ho ?_; (case hg => rfl); (case hi => exact HI.out); (case hj => rfl); (case ho => exact HO.out); try go_frame)
                | (go_at_call 27; go_loud ((with_reducible refine HP3.out.mono ?_); rintro e w4 ⟨rfl, G4, B4, S4⟩; have HBo4 := hid (HBo.out.below B4 HBo.out.lt); have HW4 := hid (HW3.out.grow B4); have HWr4 := hid (HWr.out w4 _ _ HW4.out (by have := HDB.out; simp; omega) G4); rw [HSZ.out] at HWr4; clear G4 B4 S4))
                | (go_at_call 12; go_loud ((with_reducible refine HWr4.out.mono ?_); rintro e w5 ⟨rfl, W5, K5⟩; have HW5 := hid W5; have HBo5 := hid (K5.blk HBo4.out (Or.inr HZo.out)); have HB5 := hid (HBy.out.kept (fun k hk => W5.dw.bel.block k hk)); clear W5 K5))
                | fail)
              have HC9 : Hid (∀ w' : World, Blk w' wr.heap.size [Value.int .i64 1, .int .i64 ln, .int .u8 (lf.toNat : Int), .slice bp lb0.length bc, .bool false, .slice kp2 lke.length kc2, .int .i64 lt, .int .i64 lcu] 33 → w'.cell? ⟨wr.heap.size, 0, none⟩ = some (.int .i64 1) ∧ w'.cell? ⟨wr.heap.size, 1, none⟩ = some (.int .i64 ln) ∧ w'.cell? ⟨wr.heap.size, 2, none⟩ = some (.int .u8 (lf.toNat : Int)) ∧ w'.cell? ⟨wr.heap.size, 3, none⟩ = some (.slice bp lb0.length bc) ∧ w'.cell? ⟨wr.heap.size, 4, none⟩ = some (.bool false) ∧ w'.cell? ⟨wr.heap.size, 5, none⟩ = some (.slice kp2 lke.length kc2) ∧ w'.cell? ⟨wr.heap.size, 6, none⟩ = some (.int .i64 lt) ∧ w'.cell? ⟨wr.heap.size, 7, none⟩ = some (.int .i64 lcu)) := fun w' b => ⟨b.cell 0, b.cell 1, b.cell 2, b.cell 3, b.cell 4, b.cell 5, b.cell 6, b.cell 7⟩
              have HS5 := hid (HC9.out w5 HBo5.out)
              have HS5' := hid (HC9.out w5.drew HBo5.out)
              have c5d : w5.drew.cell? ⟨mb, N, none⟩ = some vN := (HW5.out.drew.may.blk.cell N).trans HvN.out
              have c5e : w5.cell? ⟨mb, N, none⟩ = some vN := c5d
              have HOM : Hid (wr.heap.size ≠ mb) := by have := HW.out.may.blk.lt; show _ ≠ _; omega
              have HP5 := hid (HPg.out w5.drew HB5.out)
              have HN3 : Hid (N < 3) := by show _ < _; omega
              have HML : Hid ((mayOf d N).length ≤ 1000) := by have := mayOf_len d N; have := HS.out.len; show _ ≤ _; omega
              have hN3 : (N : Int) < 3 := by omega
              have HLd : Hid (∀ w6 : World, Below w5.heap.size w5 w6 → Blk w6 (w5.heap.size + 1) (bcells pgm) 5 → _) := fun w6 B6 G6 => HW5.out.laid HBo5.out B6 G6 HN3.out HML.out HvN.out
              refine wp_region_held_drew (S := fun w' => w'.cell? ⟨wr.heap.size, 0, none⟩ = some (.int .i64 1) ∧ w'.cell? ⟨wr.heap.size, 1, none⟩ = some (.int .i64 ln) ∧ w'.cell? ⟨wr.heap.size, 2, none⟩ = some (.int .u8 (lf.toNat : Int)) ∧ w'.cell? ⟨wr.heap.size, 3, none⟩ = some (.slice bp lb0.length bc) ∧ w'.cell? ⟨wr.heap.size, 4, none⟩ = some (.bool false) ∧ w'.cell? ⟨wr.heap.size, 5, none⟩ = some (.slice kp2 lke.length kc2) ∧ w'.cell? ⟨wr.heap.size, 6, none⟩ = some (.int .i64 lt) ∧ w'.cell? ⟨wr.heap.size, 7, none⟩ = some (.int .i64 lcu)) (by kernel_rfl) HS5'.out (fun hHeld => ?_)
              refine wpAnyH_take (i := 0) (v := .int .i64 (N : Int)) rfl (by kernel_rfl) (by kernel_rfl) (by kernel_rfl) (fun _ _ _ h => h) (Or.inl ⟨by rfl, fun w' hS' => by go_simp⟩) (by assumption) ?_
              try go_frame
              refine wpAnyH_take (i := 1) (v := .int .i64 (N : Int)) rfl (by kernel_rfl) (by kernel_rfl) (by kernel_rfl) (fun _ _ _ h => h) (Or.inl ⟨by rfl, fun w' hS' => by go_simp⟩) (by assumption) ?_
              try go_frame
              refine wpAnyH_take (i := 2) (v := .pointer (some ⟨mb, N, none⟩)) rfl (by kernel_rfl) (by kernel_rfl) (by kernel_rfl) (fun _ _ _ h => h) (Or.inl ⟨by rfl, fun w' hS' => by go_simp⟩) (by assumption) ?_
              try go_frame
              refine wpAnyH_take (i := 4) (v := .agg #[.int .i64 1, .int .i64 ln, .int .u8 (lf.toNat : Int), .slice bp lb0.length bc, .bool false, .slice kp2 lke.length kc2, .int .i64 lt, .int .i64 lcu]) rfl (by kernel_rfl) (by kernel_rfl) (by kernel_rfl) (fun _ _ _ h => h) (Or.inl ⟨by rfl, fun w' hS' => by obtain ⟨a0, a1, a2, a3, a4, a5, a6, a7⟩ := hS'; go_simp⟩) (by assumption) ?_
              try go_frame
              refine wpAnyH_ready (rs := [3, 5]) (by kernel_rfl) (by simp) ?_
              refine AllReadyH.cons rfl (fun K hK => ?_) (AllReadyH.cons rfl (fun K hK => ?_) AllReadyH.nil)
              · go_simp
                refine hK.out _ _ HS5'.out (fun hH => ?_)
                try go_frame
                refine wpAnyH_ready (rs := [5]) (by kernel_rfl) (by simp) ?_
                refine AllReadyH.cons rfl (fun K hK => ?_) AllReadyH.nil
                go_wp2_with (first
                  | (go_at_call 27; go_loud ((with_reducible refine HP5.out.mono ?_); rintro e w6 ⟨rfl, G6, B6, S6⟩; obtain ⟨b6, c6', b7, c7', ga, oa, ca, w8, hrun, c8, f8, b8, Y8, W8⟩ := HLd.out w6 ((Below.refl _ _).drew.trans B6) G6; have HS6 := hid (HC9.out _ b6); have HS7 := hid (HC9.out _ b7); have HS8 := hid (HC9.out w8 b8); have HS9 := hid (HC9.out (w8.setCell ⟨mb, N, none⟩ (.slice (some ⟨ga, oa, none⟩) ((mayOf d N).length + 1) ca)) (b8.same (set_block HOM.out))); have HW8 := hid W8; clear b6 b7 b8 W8 G6 B6 S6))
                  | fail)
                refine hK.out _ _ HS6.out (fun hH => ?_)
                try go_frame
                refine wpAnyH_ready (rs := [6]) (by kernel_rfl) (by simp) ?_
                refine AllReadyH.cons rfl (fun K hK => ?_) AllReadyH.nil
                go_simp
                refine hK.out _ _ HS7.out (fun hH => ?_)
                try go_frame
                refine wpAnyH_ready (rs := [7]) (by kernel_rfl) (by simp) ?_
                refine AllReadyH.cons rfl (fun K hK => ?_) AllReadyH.nil
                refine step_append_run rfl _ _ 53 rfl _ _ rfl rfl _ _ hrun ?_
                refine hK.out _ _ HS8.out (fun hH => ?_)
                try go_frame
                refine wpAnyH_take (i := 8) (v := .pointer (some ⟨mb, N, none⟩)) rfl (by kernel_rfl) (by kernel_rfl) (by kernel_rfl) (fun _ _ _ h => h) (Or.inl ⟨by rfl, fun w' hS' => by go_simp⟩) (by assumption) ?_
                try go_frame
                refine wpAnyH_ready (rs := [9]) (by kernel_rfl) (by simp) ?_
                refine AllReadyH.cons rfl (fun K hK => ?_) AllReadyH.nil
                go_simp
                refine hK.out _ _ HS9.out (fun hH => ?_)
                refine wpAnyH_done (by kernel_rfl) ?_ _
                try go_frame
                go_wp2
                go_roundw
                case rel =>
                  refine ⟨k + 1, d.wr (N : Int) pgm, vs.set N (.slice (some ⟨ga, oa, none⟩) ((mayOf d N).length + 1) ca), Y8, by go_num, by omega, ?_, HSn.out⟩
                  rw [HMn.out]
                  exact HW8.out
                case measure => simp [RowKit.intOf]; omega
              · go_simp
                go_wp2_with (first
                  | (go_at_call 27; go_loud ((with_reducible refine HP5.out.mono ?_); rintro e w6 ⟨rfl, G6, B6, S6⟩; obtain ⟨b6, c6', b7, c7', ga, oa, ca, w8, hrun, c8, f8, b8, Y8, W8⟩ := HLd.out w6 ((Below.refl _ _).drew.trans B6) G6; have HS6 := hid (HC9.out _ b6); have HS7 := hid (HC9.out _ b7); have HS8 := hid (HC9.out w8 b8); have HS9 := hid (HC9.out (w8.setCell ⟨mb, N, none⟩ (.slice (some ⟨ga, oa, none⟩) ((mayOf d N).length + 1) ca)) (b8.same (set_block HOM.out))); have HW8 := hid W8; clear b6 b7 b8 W8 G6 B6 S6))
                  | fail)
                refine hK.out _ _ HS6.out (fun hH => ?_)
                try go_frame
                refine wpAnyH_ready (rs := [3, 6]) (by kernel_rfl) (by simp) ?_
                refine AllReadyH.cons rfl (fun K hK => ?_) (AllReadyH.cons rfl (fun K hK => ?_) AllReadyH.nil)
                · go_simp
                  refine hK.out _ _ HS6.out (fun hH => ?_)
                  try go_frame
                  refine wpAnyH_ready (rs := [6]) (by kernel_rfl) (by simp) ?_
                  refine AllReadyH.cons rfl (fun K hK => ?_) AllReadyH.nil
                  go_simp
                  refine hK.out _ _ HS7.out (fun hH => ?_)
                  try go_frame
                  refine wpAnyH_ready (rs := [7]) (by kernel_rfl) (by simp) ?_
                  refine AllReadyH.cons rfl (fun K hK => ?_) AllReadyH.nil
                  refine step_append_run rfl _ _ 53 rfl _ _ rfl rfl _ _ hrun ?_
                  refine hK.out _ _ HS8.out (fun hH => ?_)
                  try go_frame
                  refine wpAnyH_take (i := 8) (v := .pointer (some ⟨mb, N, none⟩)) rfl (by kernel_rfl) (by kernel_rfl) (by kernel_rfl) (fun _ _ _ h => h) (Or.inl ⟨by rfl, fun w' hS' => by go_simp⟩) (by assumption) ?_
                  try go_frame
                  refine wpAnyH_ready (rs := [9]) (by kernel_rfl) (by simp) ?_
                  refine AllReadyH.cons rfl (fun K hK => ?_) AllReadyH.nil
                  go_simp
                  refine hK.out _ _ HS9.out (fun hH => ?_)
                  refine wpAnyH_done (by kernel_rfl) ?_ _
                  try go_frame
                  go_wp2
                  go_roundw
                  case rel =>
                    refine ⟨k + 1, d.wr (N : Int) pgm, vs.set N (.slice (some ⟨ga, oa, none⟩) ((mayOf d N).length + 1) ca), Y8, by go_num, by omega, ?_, HSn.out⟩
                    rw [HMn.out]
                    exact HW8.out
                  case measure => simp [RowKit.intOf]; omega
                · go_simp
                  refine hK.out _ _ HS7.out (fun hH => ?_)
                  try go_frame
                  refine wpAnyH_ready (rs := [3]) (by kernel_rfl) (by simp) ?_
                  refine AllReadyH.cons rfl (fun K hK => ?_) AllReadyH.nil
                  go_simp
                  refine hK.out _ _ HS7.out (fun hH => ?_)
                  try go_frame
                  refine wpAnyH_ready (rs := [7]) (by kernel_rfl) (by simp) ?_
                  refine AllReadyH.cons rfl (fun K hK => ?_) AllReadyH.nil
                  refine step_append_run rfl _ _ 53 rfl _ _ rfl rfl _ _ hrun ?_
                  refine hK.out _ _ HS8.out (fun hH => ?_)
                  try go_frame
                  refine wpAnyH_take (i := 8) (v := .pointer (some ⟨mb, N, none⟩)) rfl (by kernel_rfl) (by kernel_rfl) (by kernel_rfl) (fun _ _ _ h => h) (Or.inl ⟨by rfl, fun w' hS' => by go_simp⟩) (by assumption) ?_
                  try go_frame
                  refine wpAnyH_ready (rs := [9]) (by kernel_rfl) (by simp) ?_
                  refine AllReadyH.cons rfl (fun K hK => ?_) AllReadyH.nil
                  go_simp
                  refine hK.out _ _ HS9.out (fun hH => ?_)
                  refine wpAnyH_done (by kernel_rfl) ?_ _
                  try go_frame
                  go_wp2
                  go_roundw
                  case rel =>
                    refine ⟨k + 1, d.wr (N : Int) pgm, vs.set N (.slice (some ⟨ga, oa, none⟩) ((mayOf d N).length + 1) ca), Y8, by go_num, by omega, ?_, HSn.out⟩
                    rw [HMn.out]
                    exact HW8.out
                  case measure => simp [RowKit.intOf]; omega
            · obtain ⟨HSn, HMn⟩ := HS.out.wrStays (hxe ▸ hx0)
              have HSn := hid HSn
              have HMn := hid HMn
              have hb0 : (x == 0) = false := by simpa using hx0
              clear hxe hx0
              go_wp2_with (first
                | (refine wl_store_new rfl 33 _ _ rfl _ _ _ rfl ?hg rfl ?hi ?hj ?ho ?_; (case hg => rfl); (case hi => exact HI.out); (case hj => rfl); (case ho => exact HO.out); try go_frame)
                | (go_at_call 27; go_loud ((with_reducible refine HP3.out.mono ?_); rintro e w4 ⟨rfl, G4, B4, S4⟩; have HBo4 := hid (HBo.out.below B4 HBo.out.lt); have HW4 := hid (HW3.out.grow B4); have HWr4 := hid (HWr.out w4 _ _ HW4.out (by have := HDB.out; simp; omega) G4); rw [HSZ.out] at HWr4; clear G4 B4 S4))
                | (go_at_call 12; go_loud ((with_reducible refine HWr4.out.mono ?_); rintro e w5 ⟨rfl, W5, K5⟩; have HW5 := hid W5; clear W5 K5))
                | fail)
              go_roundw
              case rel =>
                refine ⟨k + 1, d.wr (N : Int) pgm, vs, Z3, by go_num, by omega, ?_, HSn.out⟩
                rw [HMn.out]
                exact HW5.out
              case measure => simp [RowKit.intOf]; omega
          · have HW3 := hid (hW.grow HBB.out)
            by_cases hk2 : l[k].kind = 2
            · obtain ⟨x, hxe⟩ : ∃ x, d.syErr = x := ⟨_, rfl⟩
              have HSy : Hid (Calls Try.prog 13 #[.pointer (some ⟨db, 0, none⟩)] (wr.alloc (.cells #[Value.int .i64 l[k].kind, .int .i64 l[k].n, .int .u8 (l[k].fill.toNat : Int), .slice bp l[k].b.length bc, .bool false, .slice kp2 l[k].keep.length kc2, .int .i64 l[k].torn, .int .i64 l[k].cut] 33)) fun e w' => e = .returned (.int .i64 x) ∧ BW w.heap.size w w' db d.sy mb vs 3 (mayOf d) Z) := by
                have t := HW3.out.dw.sync (by have := HS.out.len; omega)
                rw [hxe] at t
                exact t.mono (fun e w' ⟨a, b, c⟩ => ⟨a, HW3.out.disk b c⟩)
              have HOk := hid hW.dw.okk
              rw [hk2] at c0 HI HO HBB HW3 HSy
              clear hk1 hk2
              generalize l[k].n = ln at *
              generalize l[k].fill = lf at *
              generalize l[k].b = lb0 at *
              generalize l[k].long = lo at *
              generalize l[k].keep = lke at *
              generalize l[k].torn = lt at *
              generalize l[k].cut = lcu at *
              clear hW hS hBw
              by_cases hx0 : x = 0
              · subst hx0
                obtain ⟨HSn, HMn⟩ := HS.out.syGoes HOk.out hxe
                have HSn := hid HSn
                have HMn := hid HMn
                clear hxe
                go_wp2_with (first
                  | (refine wl_store_new rfl 33 _ _ rfl _ _ _ rfl ?hg rfl ?hi ?hj ?ho ?_; (case hg => rfl); (case hi => exact HI.out); (case hj => rfl); (case ho => exact HO.out); try go_frame)
                  | (go_at_call 13; go_loud ((with_reducible refine HSy.out.mono ?_); rintro e w5 ⟨rfl, W5⟩; have HW5 := hid W5; clear W5))
                  | fail)
                go_loopw [16] (fun i wr => ∃ (j : Nat) (vs : List Value) (Z : Nat → Prop), i = .int .i64 (j : Int) ∧ j ≤ 3 ∧ BW w.heap.size w wr db d.sy mb vs 3 (fun n => if n < j then mayOf d.sy n else mayOf d n) Z) (fun i _ => 3 - (RowKit.intOf i).toNat)
                case atStart => exact ⟨0, vs, Z, rfl, by omega, HW5.out⟩
                case round =>
                  clear HW5
                  obtain ⟨j, vs, Z, rfl, hj, hW⟩ := hrel
                  have HWj := hid hW
                  by_cases hx : j < 3
                  · obtain ⟨b, hb, hsy⟩ := HMn.out j
                    obtain ⟨ga, oa, ca, e1, h1, h2, h3, Y, W6⟩ := hW.cut (N := j) hx b (by rw [if_neg (Nat.lt_irrefl j)]; exact hb)
                    have c6 := (hW.drew.may.blk.cell j).trans e1
                    have f6 := hW.drew.may.blk.frozen j
                    have hMj : (fun n => if n = j then [b] else if n < j then mayOf d.sy n else mayOf d n) = (fun n => if n < j + 1 then mayOf d.sy n else mayOf d n) := by
                      funext n
                      by_cases q : n = j
                      · subst q; rw [if_pos rfl, if_pos (Nat.lt_succ_self n), hsy]
                      · rw [if_neg q]
                        by_cases q2 : n < j
                        · rw [if_pos q2, if_pos (by omega)]
                        · rw [if_neg q2, if_neg (by omega)]
                    rw [hMj] at W6
                    rw [if_neg (Nat.lt_irrefl j)] at c6 h1 h3 W6
                    have hlen := mayOf_len d j
                    have hd60 : d.pend.length ≤ 60 := by have := HS.out.len; omega
                    generalize (mayOf d j).length = L at *
                    have HW6 := hid W6.drew
                    have hj3 : (j : Int) < 3 := by omega
                    have hL1 : (1 : Int) ≤ (L : Int) := by omega
                    have hL2 : (L : Int) ≤ 61 := by omega
                    have hLL : L - (L - 1) = 1 := by omega
                    clear hW hb hsy e1 hMj W6 hlen hd60
                    go_wp2
                    go_region
                    go_wp2
                    go_roundw
                    case rel => exact ⟨j + 1, _, Y, by go_num, by omega, HW6.out⟩
                    case measure => simp [RowKit.intOf]; omega
                  · obtain rfl : j = 3 := by omega
                    have HW6 := hid (hW.congr (M' := mayOf d.sy) (fun n hn => by rw [if_pos hn]))
                    clear hW hj hx
                    go_wp2
                    go_roundw
                    case rel => exact ⟨k + 1, d.sy, vs, Z, by go_num, by omega, HW6.out, HSn.out⟩
                    case measure => simp [RowKit.intOf]; omega
              · obtain ⟨HSn, HMn⟩ := HS.out.syStays (hxe ▸ hx0)
                have HSn := hid HSn
                have HMn := hid HMn
                have hb0 : (x == 0) = false := by simpa using hx0
                clear hxe hx0
                go_wp2_with (first
                  | (refine wl_store_new rfl 33 _ _ rfl _ _ _ rfl ?hg rfl ?hi ?hj ?ho ?_; (case hg => rfl); (case hi => exact HI.out); (case hj => rfl); (case ho => exact HO.out); try go_frame)
                  | (go_at_call 13; go_loud ((with_reducible refine HSy.out.mono ?_); rintro e w5 ⟨rfl, W5⟩; have HW5 := hid W5; clear W5))
                  | fail)
                go_roundw
                case rel =>
                  refine ⟨k + 1, d.sy, vs, Z, by go_num, by omega, ?_, HSn.out⟩
                  rw [HMn.out]
                  exact HW5.out
                case measure => simp [RowKit.intOf]; omega
            · by_cases hk3 : l[k].kind = 3
              · have HAr : Hid (Calls Try.prog 28 #[.pointer (some ⟨db, 0, none⟩), .int .i64 l[k].n] (wr.alloc (.cells #[Value.int .i64 l[k].kind, .int .i64 l[k].n, .int .u8 (l[k].fill.toNat : Int), .slice bp l[k].b.length bc, .bool false, .slice kp2 l[k].keep.length kc2, .int .i64 l[k].torn, .int .i64 l[k].cut] 33)) fun e w' => e = .returned (.tuple #[]) ∧ BW w.heap.size w w' db (d.armed l[k].n) mb vs 3 (mayOf d) Z) := (HW3.out.dw.arms l[k].n hnb.2).mono (fun e w' ⟨a, b, c⟩ => ⟨a, HW3.out.disk b c⟩)
                obtain ⟨HSn, HMn⟩ := HS.out.armed l[k].n
                have HSn := hid HSn
                have HMn := hid HMn
                have c1' : (wr.alloc (.cells #[Value.int .i64 l[k].kind, .int .i64 l[k].n, .int .u8 (l[k].fill.toNat : Int), .slice bp l[k].b.length bc, .bool false, .slice kp2 l[k].keep.length kc2, .int .i64 l[k].torn, .int .i64 l[k].cut] 33)).cell? ⟨g, off + k * 8 + 1, none⟩ = some (.int .i64 l[k].n) := (World.cell?_of_block (w := wr) (a := ⟨g, off + k * 8 + 1, none⟩) (HBB.out.block g (cell_lt c1))).trans c1
                rw [hk3] at c0 HI HO HBB HW3 HAr c1'
                clear hk1 hk2 hk3
                generalize l[k].n = ln at *
                generalize l[k].fill = lf at *
                generalize l[k].b = lb0 at *
                generalize l[k].long = lo at *
                generalize l[k].keep = lke at *
                generalize l[k].torn = lt at *
                generalize l[k].cut = lcu at *
                clear hW hS hBw
                go_wp2_with (first
                  | (refine wl_store_new rfl 33 _ _ rfl _ _ _ rfl ?hg rfl ?hi ?hj ?ho ?_; (case hg => rfl); (case hi => exact HI.out); (case hj => rfl); (case ho => exact HO.out); try go_frame)
                  | (go_at_call 28; go_loud ((with_reducible refine HAr.out.mono ?_); rintro e w5 ⟨rfl, W5⟩; have HW5 := hid W5; clear W5))
                  | fail)
                go_roundw
                case rel =>
                  refine ⟨k + 1, d.armed ln, vs, Z, by go_num, by omega, ?_, HSn.out⟩
                  rw [HMn.out]
                  exact HW5.out
                case measure => simp [RowKit.intOf]; omega
              · have hb1 : (l[k].kind == 1) = false := by simpa using hk1
                have hb2 : (l[k].kind == 2) = false := by simpa using hk2
                have hb3 : (l[k].kind == 3) = false := by simpa using hk3
                clear hk1 hk2 hk3
                generalize l[k].kind = lk0 at *
                generalize l[k].n = ln at *
                generalize l[k].fill = lf at *
                generalize l[k].b = lb0 at *
                generalize l[k].long = lo at *
                generalize l[k].keep = lke at *
                generalize l[k].torn = lt at *
                generalize l[k].cut = lcu at *
                clear hW hS hBw
                go_wp2_with (first
                  | (refine wl_store_new rfl 33 _ _ rfl _ _ _ rfl ?hg rfl ?hi ?hj ?ho ?_; (case hg => rfl); (case hi => exact HI.out); (case hj => rfl); (case ho => exact HO.out); try go_frame)
                  | fail)
                go_roundw
                case rel => exact ⟨k + 1, d, vs, Z, by go_num, by omega, HW3.out, HS.out.mono (by omega)⟩
                case measure => simp [RowKit.intOf]; omega
        · have hxx : l.length ≤ k ∨ (k < l.length ∧ ¬ ((k : Int) < 60)) := by omega
          have HPl : Hid (d.pend.length ≤ 100) := by have := hS.len; show _ ≤ _; omega
          have HOk := hid hW.dw.okk
          have HP3 : Hid (d.pages = 3) := hS.pages
          have hmk := mk_bools
          obtain ⟨Z4, HW4, HZa⟩ : ∃ Z4, Hid (BW w.heap.size w (wr.alloc (.cells (kcells (falses 100)).toArray 4)) db d mb vs 3 (mayOf d) Z4) ∧ Hid (Z4 wr.heap.size) := ⟨_, hW.add ((Below.refl _ _).alloc (Nat.le_refl _) _), Or.inr ⟨Nat.le_refl _, by simp⟩⟩
          have HG4 : Hid (Blk (wr.alloc (.cells (kcells (falses 100)).toArray 4)) wr.heap.size (kcells (trueTo 100 0)) 4) := by
            show Blk _ _ _ _
            rw [trueTo_zero]
            exact Blk.new wr _ _
          clear hW hS hBw hx HW HL
          rcases hxx with hxx | ⟨hxx, hxi⟩
          all_goals (
            go_wp2
            clear hmk
            generalize wr.heap.size = ab at *
            go_loopw [18] (fun i wq => ∃ j : Nat, i = .int .i64 (j : Int) ∧ j ≤ 100 ∧ Blk wq ab (kcells (trueTo 100 j)) 4 ∧ BW w.heap.size w wq db d mb vs 3 (mayOf d) Z4) (fun i _ => 100 - (RowKit.intOf i).toNat)
            case atStart => exact ⟨0, rfl, by omega, HG4.out, HW4.out⟩
            case round =>
              clear HG4 HW4
              obtain ⟨j, rfl, hj, hG, hW⟩ := hrel
              have HG := hid hG
              have HW := hid hW
              by_cases hx : j < 100
              · have gf := hG.frozen j
                have gc : wr.cell? ⟨ab, j, none⟩ = some (.bool ((trueTo 100 j)[j]'(by rw [trueTo_len hj]; exact hx))) := (HG.out.cell j).trans (kcells_at _)
                generalize (trueTo 100 j)[j]'(by rw [trueTo_len hj]; exact hx) = old at gc
                have hj3 : (j : Int) < 100 := by omega
                clear hG hW
                go_wp2
                go_roundw
                case rel =>
                  refine ⟨j + 1, by go_num, by omega, ?_, HW.out.setBool HG.out HZa.out j _⟩
                  have q := HG.out.set (i := j) (.bool true)
                  rw [kcells_set, trueTo_next hx] at q
                  exact q
                case measure => simp [RowKit.intOf]; omega
              · have hjz : (j : Int) = 100 := by omega
                rw [hjz]
                clear hjz
                obtain rfl : j = 100 := by omega
                have HGf : Hid (Blk wr ab (kcells (trues 100)) 4) := by have := HG.out; rwa [trueTo_all] at this
                have HCl := hid (hW.clone (by have := HPl.out; omega))
                have HIm : Hid (∀ w7 : World, BW w.heap.size w w7 db d mb vs 3 (mayOf d) Z4 → Calls Try.prog 22 #[.pointer (some ⟨db, 0, none⟩)] w7 fun e w' => (∃ p q, e = .returned (.slice p d.img.length q) ∧ OwnB w' w7.heap.size (.slice p d.img.length q) d.img) ∧ Below w7.heap.size w7 w') := fun w7 h => h.image
                clear hG hW hx hj HG
                go_wp2_with (first
                  | (go_at_call 11; go_loud ((with_reducible refine HCl.out.mono ?_); rintro e w7 ⟨rfl, P7, B7⟩; have HP7 := hid P7; have HB7 := hid B7; have HI7 := hid (HIm.out w7 (HW.out.grow B7)); clear P7 B7))
                  | (go_at_call 22; go_loud ((with_reducible refine HI7.out.mono ?_); rintro e w8 ⟨⟨pi, qi, rfl, O8⟩, B8⟩; have HM8 := hid (mendC HP7.out HB7.out B8 O8 HGf.out HPl.out); clear O8 B8))
                  | (go_at_call 14; first
                      | ((with_reducible refine HM8.out.mono ?_); rintro e w9 ⟨rfl, P9, O9, B9⟩; have HM9 := hid (mendE HW.out B9 P9 O9 HB7.out.size kp keep kc torn cut HK.out rfl (by have := HPl.out; omega)); clear P9 O9 B9)
                      | ((with_reducible refine HM9.out.mono ?_); rintro e w10 ⟨rfl, E10⟩; have HE10 := hid E10; clear E10))
                  | fail)
                have HCi : Hid ((d.mended (trues 100) (-1) 0).img = d.img) := mended_all HOk.out HPl.out
                have HBt : Hid (∀ n b, ∃ m ∈ mayOf d n, ((d.mended keep torn cut).has ((n : Nat) : Int))[b]? = m[b]?) := fun n b => mended_byte d keep torn cut n b
                have HFr : Hid (d.mended keep torn cut).free := Dk.mended_free ..
                have HPg : Hid ((d.mended keep torn cut).pages = 3) := HP3.out
                have H512 : Hid (∀ n, ∀ m ∈ mayOf d n, m.length = 512) := fun n => mayOf_512 HOk.out n
                have HLs : Hid (∀ n, (mayOf d n).length ≤ 101) := fun n => by have := mayOf_len d n; have := HPl.out; omega
                clear HM8 HM9 HI7 HIm HCl HP7 HB7 HGf HW HS HOk HP3 HPl HZa
                generalize wr.heap.size = cb at *
                generalize d.mended (trues 100) (-1) 0 = c' at *
                generalize d.mended keep torn cut = d' at *
                generalize mayOf d = M at *
                generalize d.img = im at *
                go_loopw [21] (fun i wr => ∃ j : Nat, i = .int .i64 (j : Int) ∧ j ≤ 3 ∧ BE w.heap.size w wr db d' mb vs M Z4 cb c' (.slice pi im.length qi) im) (fun i _ => 3 - (RowKit.intOf i).toNat)
                case atStart => exact ⟨0, rfl, by omega, HE10.out⟩
                case round =>
                  clear HE10
                  obtain ⟨j, rfl, hj, hE⟩ := hrel
                  have HE := hid hE
                  by_cases hx : j < 3
                  · have HRd := hid (hE.read HFr.out (k := j) (by rw [HPg.out]; exact hx))
                    have HBl : Hid ((d'.has (j : Int)).length = 512) := hE.pd.okk.has _
                    have HBj : Hid (∀ b, ∃ m ∈ M j, (d'.has (j : Int))[b]? = m[b]?) := fun b => HBt.out j b
                    have H5j : Hid (∀ m ∈ M j, m.length = 512) := H512.out j
                    have HLj : Hid ((M j).length ≤ 101) := HLs.out j
                    have hj3 : (j : Int) < 3 := by omega
                    have HJ := hid hx
                    clear hE
                    generalize d'.has (j : Int) = B at *
                    go_wp2_with (first
                      | (go_at_call 29; go_loud ((with_reducible refine HRd.out.mono ?_); rintro e w11 ⟨rfl, P11, B11⟩; have HE11 := hid (HE.out.below B11); have HP11 := hid P11; clear P11 B11))
                      | fail)
                    generalize wr.heap.size + 1 = bb at *
                    go_loopw [24] (fun i wr => ∃ i0 : Nat, i = .int .i64 (i0 : Int) ∧ i0 ≤ 512 ∧ Below w11.heap.size w11 wr) (fun i _ => 512 - (RowKit.intOf i).toNat)
                    case atStart => exact ⟨0, rfl, by omega, Below.refl _ _⟩
                    case round =>
                      obtain ⟨i0, rfl, hi0, hB0⟩ := hrel
                      have HB0 := hid hB0
                      by_cases hx6 : i0 < 512
                      · have hi3 : (i0 : Int) < 512 := by omega
                        have HI6 := hid hx6
                        clear hB0
                        go_wp2
                        go_loopw [25, 26] (fun ok q wr => ∃ q0 : Nat, q = .int .i64 (q0 : Int) ∧ q0 ≤ (M j).length ∧ ok = .bool (((M j).take q0).any (fun m => m[i0]? == B[i0]?)) ∧ Below w11.heap.size w11 wr) (fun _ q _ => (M j).length - (RowKit.intOf q).toNat)
                        case atStart => exact ⟨0, rfl, by omega, rfl, HB0.out⟩
                        case round =>
                          clear HB0
                          obtain ⟨q0, rfl, hq0, rfl, hBq⟩ := hrel
                          have HBq := hid hBq
                          have hEq := HE11.out.below hBq
                          obtain ⟨gr, fr, cr, r1, r2, r3⟩ := hEq.rowAt HJ.out
                          have hL101 : ((M j).length : Int) ≤ 101 := by have := HLj.out; omega
                          by_cases hx7 : q0 < (M j).length
                          · obtain ⟨pb, y1, y2⟩ := hEq.byteAt HJ.out r3 hx7
                            have hm5 : ((M j)[q0]).length = 512 := H5j.out _ (List.getElem_mem hx7)
                            have y3 := y2 i0 (by rw [hm5]; exact HI6.out)
                            have y4 : wr.cell? ⟨bb, i0, none⟩ = some (.int .u8 ((B[i0]'(by rw [HBl.out]; exact HI6.out)).toNat : Int)) := by
                              rw [(HP11.out.below hBq HP11.out.blk.lt).blk.cell i0]
                              exact bcells_at _
                            have hta : ((M j).take (q0 + 1)).any (fun m => m[i0]? == B[i0]?) = (((M j).take q0).any (fun m => m[i0]? == B[i0]?) || ((M j)[q0][i0]? == B[i0]?)) := by
                              rw [List.take_succ_eq_append_getElem hx7, List.any_append]
                              simp
                            have hqq : (M j)[q0][i0]? = some ((M j)[q0][i0]'(by rw [hm5]; exact HI6.out)) := List.getElem?_eq_getElem _
                            have hbb : B[i0]? = some (B[i0]'(by rw [HBl.out]; exact HI6.out)) := List.getElem?_eq_getElem _
                            rw [hqq, hbb] at hta
                            have HTa := hid hta
                            generalize (M j)[q0][i0]'(by rw [hm5]; exact HI6.out) = mq at *
                            generalize B[i0]'(by rw [HBl.out]; exact HI6.out) = bq at *
                            clear hBq hEq r3 y2 hm5 hqq hta
                            cases hok : ((M j).take q0).any (fun m => m[i0]? == B[i0]?) with
                            | true =>
                              go_wp2
                              go_quiet (fail)
                              go_wp2
                              go_roundw
                              case rel => exact ⟨q0 + 1, by go_num, by omega, by rw [hbb, HTa.out, ← hbb, hok]; rfl, below_drewN HBq.out _⟩
                              case measure => simp [RowKit.intOf]; omega
                            | false =>
                              by_cases heq : bq = mq
                              · subst heq
                                go_wp2
                                go_quiet (fail)
                                go_wp2
                                go_roundw
                                case rel => exact ⟨q0 + 1, by go_num, by omega, by rw [hbb, HTa.out, ← hbb, hok]; simp, below_drewN HBq.out _⟩
                                case measure => simp [RowKit.intOf]; omega
                              · have hne : ((bq.toNat : Int) == (mq.toNat : Int)) = false := by
                                  rw [beq_eq_false_iff_ne]
                                  intro h
                                  exact heq (UInt8.toNat_inj.1 (by omega))
                                have hne2 : (some mq == some bq) = false := by
                                  rw [beq_eq_false_iff_ne]
                                  intro h
                                  exact heq (Option.some.inj h).symm
                                go_wp2
                                go_quiet (fail)
                                go_wp2
                                go_roundw
                                case rel => exact ⟨q0 + 1, by go_num, by omega, by rw [hbb, HTa.out, ← hbb, hok, hbb, hne2]; rfl, below_drewN HBq.out _⟩
                                case measure => simp [RowKit.intOf]; omega
                          · obtain rfl : q0 = (M j).length := by omega
                            have hany : ((M j).take (M j).length).any (fun m => m[i0]? == B[i0]?) = true := by
                              rw [List.take_length, List.any_eq_true]
                              obtain ⟨m, hm, e⟩ := HBj.out i0
                              exact ⟨m, hm, by rw [e]; simp⟩
                            clear hBq hEq r3
                            rw [hany]
                            go_wp2
                            go_roundw
                            case rel => exact ⟨i0 + 1, by go_num, by omega, HBq.out⟩
                            case measure => simp [RowKit.intOf]; omega
                      · have hiz : (i0 : Int) = 512 := by omega
                        rw [hiz]
                        clear hiz
                        obtain rfl : i0 = 512 := by omega
                        clear hB0
                        go_wp2
                        go_roundw
                        case rel => exact ⟨j + 1, by go_num, by omega, HE11.out.below HB0.out⟩
                        case measure => simp [RowKit.intOf]; omega
                  · have hjz : (j : Int) = 3 := by omega
                    rw [hjz]
                    clear hjz
                    obtain rfl : j = 3 := by omega
                    have HX : Hid (Calls Try.prog 22 #[.pointer (some ⟨cb, 0, none⟩)] wr.drew fun e w' => (∃ p q, e = .returned (.slice p im.length q) ∧ Byts w' p im) ∧ BE w.heap.size w w' db d' mb vs M Z4 cb c' (.slice pi im.length qi) im) := (hE.below (Below.refl _ _).drew).imgC HCi.out
                    have cvd : Hid ((convert 30 9 (.slice pi im.length qi)).run Try.prog wr.drew = .ok (.string ⟨im.toArray⟩) wr.drew) := (hE.below (Below.refl _ _).drew).conv
                    clear hE hj hx
                    go_wp2
                    go_region_held_law (fun w' => (convert 30 9 (.slice pi im.length qi)).run Try.prog w' = .ok (.string ⟨im.toArray⟩) w') (first | exact cvd.out | exact HK12.out)
                      ((first
                        | (go_at_call 22; go_loud ((with_reducible refine HX.out.mono ?_); rintro e w12 ⟨⟨pk, pq, rfl, y12⟩, E12⟩; have u12 := conv_byts pq y12; have HK12 := hid E12.conv; have HE12 := hid E12; clear y12 E12))
                        | fail))
                    all_goals go_wp2
                    all_goals go_ret
                    all_goals exact ⟨rfl, HE12.out.bel⟩)
end Go.Proofs.Ytfgcjcffplglhaa
