/- Package step: setFired. -/
import Derived.Test.YtngbannidbijmaaGStepA
import Derived.Test.YtngbannidbijmaaRunDraw
namespace Go.Proofs.Ytngbannidbijmaa
open Go.RowKit
set_option linter.unusedVariables false
set_option linter.unusedSimpArgs false

/-- a body of a row, where it lies -/
theorem at_row {g n cap k : Nat} (hk : k < n) (w : World) : (Instr.indexAt 70 (.slice (some ⟨g, 0, none⟩) n cap) (.int .i64 (k : Nat))).run Try.prog w = .ok (.pointer (some ⟨g, k * 12, none⟩)) w := by
  have hs : (sizeOf (Try.prog.elem 70)).run Try.prog w = .ok 12 w := by kernel_rfl
  rw [run_indexAt_slice (h := by kernel_rfl), if_pos ⟨by omega, by omega⟩, hs]
  simp [Result.andThen, Addr.add_lit]
theorem exec_atR {w : World} {o : Oper} {act : Act} {g n cap k : Nat} (hk : k < n) (x y : Operand) (ho : o.op = .indexAddr 70 x y) (hx : act.eval x = .slice (some ⟨g, 0, none⟩) n cap) (hy : act.eval y = .int .i64 (k : Nat)) : (execOp act.eval o).run Try.prog w = .ok (.value (.pointer (some ⟨g, k * 12, none⟩))) w := by
  simp only [execOp, ho, hx, hy, Sem.run_bind, at_row hk, Result.andThen_ok, Sem.run_pure]
theorem place_eq {bs : List Bd} {i : Nat} (hi : i < bs.length) (h0 : (bs.getD i Body.zero).k = 0) (hn : ∀ j, j < i → ¬ (bs.getD j Body.zero).k = 0) : Step.place bs = i := by
  unfold Step.place
  rw [List.findIdx_eq hi]
  refine ⟨?_, fun j hj => ?_⟩
  · rw [List.getD_eq_getElem?_getD, List.getElem?_eq_getElem hi] at h0
    simpa using h0
  · have := hn j hj
    rw [List.getD_eq_getElem?_getD, List.getElem?_eq_getElem (by omega)] at this
    simpa using this
theorem puts_take {bs : List Bd} {sh : List Bd} {k : Nat} (hk : k < sh.length) : Step.puts bs (sh.take (k + 1)) = (Step.puts bs (sh.take k)).set (Step.place (Step.puts bs (sh.take k))) (sh.getD k Body.zero) := by
  have e : sh.take (k + 1) = sh.take k ++ [sh.getD k Body.zero] := by
    rw [List.take_add_one, List.getD_eq_getElem?_getD, List.getElem?_eq_getElem hk]; simp
  rw [e]
  unfold Step.puts
  rw [List.foldl_append]
  rfl
structure FirstFree (bs : List Bd) (f : Nat) : Prop where
  eq : ∀ i, i < 16 → (bs.getD i Body.zero).k = 0 → (∀ j, j < i → ¬ (bs.getD j Body.zero).k = 0) → i = f
/-- where setFired stands -/
structure Set (w W : World) (B p : Nat) (c : Cf) (rv tv fv : Value) (s : Gs) (sh : List Bd) (k pc : Nat) : Prop where
  fr : Fr W p c rv tv { s with bs := Step.puts s.bs (sh.take k) } fv
  row : SR B W fv sh
  only : Only [p] w W
  good : Step.Good c.pl (Step.puts s.bs (sh.take k))
  room : sh.length ≤ Step.free (Step.puts s.bs (sh.take k)) + k
  past : ∀ j, j < pc → ¬ ((Step.puts s.bs (sh.take k)).getD j Body.zero).k = 0
theorem Set.then {w W W' : World} {B p : Nat} {c : Cf} {rv tv fv : Value} {s : Gs} {sh : List Bd} {k pc : Nat} (h : Set w W B p c rv tv fv s sh k pc) (o : Only [] W W') : Set w W' B p c rv tv fv s sh k pc :=
  ⟨h.fr.only o (by simp), h.row.only o (by simp), h.only.trans (o.weaken (by simp)), h.good, h.room, h.past⟩
set_option maxRecDepth 100000 in
set_option maxHeartbeats 4000000 in
theorem setFired_any {B : Nat} {w : World} {p : Nat} {c : Cf} {rv tv fv : Value} {s : Gs} {sh : List Bd} (F : Fr w p c rv tv s fv) (hs : SR B w fv sh) (hp : ∀ g, fv.ownBlock = some g → g ≠ p) (G : Step.Good c.pl s.bs) (hf : ∀ x ∈ sh, Step.Fired c.pl x) (hl : sh.length ≤ Step.free s.bs) : Calls Try.prog 30 #[.pointer (some ⟨p, 0, none⟩)] w fun e w' => e = .returned (.tuple #[]) ∧ Fr w' p c rv tv { s with bs := Step.puts s.bs sh } fv ∧ Only [p] w w' := by
  obtain ⟨fa, fc, hfe, -⟩ := hs.form
  obtain ⟨m, hm⟩ : ∃ m, sh.length = m := ⟨_, rfl⟩
  have HM : Hid _ := hm
  rw [hm] at hfe
  have hm16 : m ≤ 16 := by have := free_le s.bs; rw [G.len] at this; omega
  have H0 : Hid (Set w w B p c rv tv fv s sh 0 0) := ⟨F, hs, Only.refl _ _, G, by show sh.length ≤ Step.free (Step.puts s.bs []) + 0; exact hl, fun j hj => by omega⟩
  subst hfe
  have HP : Hid _ := hp
  have HF : Hid _ := hf
  have WF : Hid _ := F.wf
  clear F hs G hl hm hp hf
  go_enter Try.func30, Try.ntmps30
  have cf : w.cell? ⟨p, 212, none⟩ = some (.slice fa m fc) := H0.out.fr.fired
  go_wp2_with fail
  clear cf
  go_loopg [2, 10] (m + 1) (fun gk vp vi wr => ∃ k pc : Nat, vi = .int .i64 k ∧ vp = .int .i64 pc ∧ k ≤ m ∧ pc ≤ 16 ∧ m + 1 - k ≤ gk ∧ Hid (Set w wr B p c rv tv (.slice fa m fc) s sh k pc))
  case atStart => exact ⟨0, 0, rfl, rfl, by omega, by omega, by omega, H0.out⟩
  case round =>
    clear H0
    obtain ⟨k, pc, rfl, rfl, hk, hpc, hg, HH⟩ := hrel
    by_cases hlt : k < m
    rotate_left
    · have z1 : ¬ (k : Int) < (m : Int) := by omega
      have e : Hid (sh.take k = sh) := by show _ = _; rw [List.take_of_length_le (by rw [HM.out]; omega)]
      go_wp2_with fail
      go_end0
      have := HH.out.fr
      rw [e.out] at this
      exact ⟨rfl, this, HH.out.only⟩
    · have z1 : (k : Int) < (m : Int) := by omega
      obtain ⟨b, hb⟩ : ∃ b, sh.getD k Body.zero = b := ⟨_, rfl⟩
      have FB : Hid (Step.Fired c.pl b) := by
        rw [← hb]
        refine HF.out _ ?_
        have : k < sh.length := by rw [HM.out]; exact hlt
        simp [List.getD_eq_getElem?_getD, this]
      obtain ⟨bs, hbs⟩ : ∃ bs, Step.puts s.bs (sh.take k) = bs := ⟨_, rfl⟩
      have NX : Hid (Step.puts s.bs (sh.take (k + 1)) = bs.set (Step.place bs) b) := by show _ = _; rw [puts_take (by rw [HM.out]; exact hlt), hbs, hb]
      have GB : Hid (Step.Good c.pl bs ∧ 0 < Step.free bs ∧ m ≤ Step.free bs + k ∧ ∀ j, j < pc → ¬ (bs.getD j Body.zero).k = 0) := by
        have h1 := HH.out.good
        have h2 := HH.out.room
        have h3 := HH.out.past
        rw [hbs] at h1 h2 h3
        rw [HM.out] at h2
        exact ⟨h1, by omega, h2, h3⟩
      obtain ⟨g, hfa, -, hcells⟩ := HH.out.row.at_ k (by rw [HM.out]; exact hlt)
      subst hfa
      rw [hb] at hcells
      have HC : Hid _ := hcells
      have H1 : Hid (Fr wr p c rv tv { s with bs := bs } (.slice (some ⟨g, 0, none⟩) m fc) ∧ SR B wr (.slice (some ⟨g, 0, none⟩) m fc) sh ∧ Only [p] w wr) := by
        have h1 := HH.out.fr
        rw [hbs] at h1
        exact ⟨h1, HH.out.row, HH.out.only⟩
      clear HH hcells
      go_upto_region 3 with fail
      apply wp_region_lit
      refine op_val (w' := wr) rfl (.pointer (some ⟨g, k * 12, none⟩)) (exec_atR (cap := fc) hlt (.tmp 8) (.tmp 10) rfl (by kernel_rfl) (by kernel_rfl)) ?_
      simp only [Act.put, List.setIfInBounds_toArray, List.set_cons_succ, List.set_cons_zero]
      refine opg_loads (by kernel_rfl) (cs := b.cells) (g := g) (off := k * 12) 33 (.tmp 12) rfl (by kernel_rfl) Try.underlying33 info_bd HC.out ?_
      simp only [Act.put, List.setIfInBounds_toArray, List.set_cons_succ, List.set_cons_zero]
      refine op_val (w' := wr.alloc (.cells Body.zero.cells.toArray 33)) rfl (.pointer (some ⟨wr.heap.size, 0, none⟩)) (by kernel_rfl) ?_
      simp only [Act.put, List.setIfInBounds_toArray, List.set_cons_succ, List.set_cons_zero]
      refine op_storeBl (p := wr.heap.size) (b := b) rfl (Bl.new Body.zero _ _) (.tmp 4) (.tmp 13) rfl (by kernel_rfl) (by kernel_rfl) ?_
      intro w4 hb4 o4 hz4
      have o14 : Only [] wr w4 := ((Only.refl [] wr).alloc _).then o4 (fun u hu hl => by have h2 : u = wr.heap.size := (by simpa using hu); omega)
      have hpt : p < wr.heap.size := H1.out.1.blk.lt
      have H4 : Hid (Fr w4 p c rv tv { s with bs := bs } (.slice (some ⟨g, 0, none⟩) m fc) ∧ SR B w4 (.slice (some ⟨g, 0, none⟩) m fc) sh ∧ Only [p] w w4 ∧ Bl w4 wr.heap.size b ∧ p < wr.heap.size) := ⟨H1.out.1.only o14 (by simp), H1.out.2.1.only o14 (by simp), H1.out.2.2.trans (o14.weaken (by simp)), hb4, hpt⟩
      generalize wr.heap.size = t at *
      clear hb4 o4 hz4 o14 H1 HC hpt
      simp only [Act.put, List.setIfInBounds_toArray, List.set_cons_succ, List.set_cons_zero]
      refine wpList_nil ?_
      obtain ⟨f, hfp⟩ : ∃ f, Step.place bs = f := ⟨_, rfl⟩
      have PS : Hid (f < 16 ∧ (bs.getD f Body.zero).k = 0) := by
        have := Step.place_spec GB.out.1 GB.out.2.1
        rw [hfp] at this
        exact ⟨this.1, this.2.1⟩
      have PE : FirstFree bs f := ⟨fun i h1 h2 h3 => by
        have := place_eq (bs := bs) (by rw [GB.out.1.len]; exact h1) h2 h3
        rw [← this, hfp]⟩
      rw [hfp] at NX
      have hpf : pc ≤ f := by
        rcases Nat.lt_or_ge f pc with h | h
        · exact absurd PS.out.2 (GB.out.2.2.2 f h)
        · exact h
      have PC : Hid _ := GB.out.2.2.2
      clear hfp hb hbs
      generalize w4 = W0 at *
      go_wp2_with fail
      go_loopg [2] 17 (fun gk vp wr => ∃ i : Nat, vp = .int .i64 i ∧ i ≤ f ∧ 17 - i ≤ gk ∧ Hid (wr = W0 ∧ ∀ j, j < i → ¬ (bs.getD j Body.zero).k = 0))
      case atStart => exact ⟨pc, rfl, hpf, by omega, rfl, PC.out⟩
      case round =>
        obtain ⟨i, rfl, hif, hg2, HI⟩ := hrel
        obtain rfl := HI.out.1
        have hi16 : i < 16 := by have := PS.out.1; omega
        have z2 : (0 : Int) ≤ (i : Int) := by omega
        have z3 : (i : Int) < 16 := by omega
        have ck : wr.cell? ⟨p, 12 + i * 12, none⟩ = some (.int .i64 (bs.getD i Body.zero).k) := H4.out.1.body hi16 0 _ rfl
        by_cases h0 : (bs.getD i Body.zero).k = 0
        · rw [h0] at ck
          go_wp2_with fail
          clear ck
          have HV : Hid (∀ y, Only [] wr.drew y → Bl y t b ∧ Fr y p c rv tv { s with bs := bs } (.slice (some ⟨g, 0, none⟩) m fc) ∧ SR B y (.slice (some ⟨g, 0, none⟩) m fc) sh ∧ Only [p] w y) := fun y hy => by
            have o := (only_drew wr).trans hy
            exact ⟨H4.out.2.2.2.1.only o (by simp), H4.out.1.only o (by simp), H4.out.2.1.only o (by simp), H4.out.2.2.1.trans (o.weaken (by simp))⟩
          have ib := info_bd
          refine wp_region_free 7 (Only []) (Only.refl _) Only.trans [(0, .pointer (some ⟨p, 0, none⟩)), (2, .int .i64 i), (4, .pointer (some ⟨t, 0, none⟩))] (by intro p hp; simp only [List.mem_cons, List.not_mem_nil, or_false] at hp; rcases hp with rfl | rfl | rfl <;> rfl) (by kernel_rfl) (by kernel_rfl) (by decide) (by kernel_rfl) (by kernel_rfl) ?_
          simp only [List.take_succ_cons, List.take_zero, List.drop_succ_cons, List.drop_zero]
          refine rf_val (.pointer (some ⟨p, 0, none⟩)) (by first | rfl | exact ⟨by kernel_rfl, rfl⟩) (fun z v hT hf => exec_move (.tmp 0) rfl (by simp at hf; simp [Act.eval, hf])) ?_
          refine rf_val (.int .i64 i) (by first | rfl | exact ⟨by kernel_rfl, rfl⟩) (fun z v hT hf => exec_move (.tmp 2) rfl (by simp at hf; simp [Act.eval, hf])) ?_
          refine rf_val b.v (by first | rfl | exact ⟨by kernel_rfl, rfl⟩) (fun z v hT hf => exec_loads (cs := b.cells) (g := t) (off := 0) 33 (.tmp 4) rfl (by simp at hf; simp [Act.eval, hf]) Try.underlying33 ib (HV.out v hT).1.blk.whole) ?_
          iterate 3 (
            apply rf_val
            · first | rfl | exact ⟨by kernel_rfl, rfl⟩
            · intro z v hT hf
              simp at hf
              go_simp
              try rfl)
          refine rf_val (.pointer (some ⟨p, 12 + i * 12, none⟩)) (by first | rfl | exact ⟨by kernel_rfl, rfl⟩) (fun z v hT hf => exec_at hi16 (.tmp 30) (.tmp 26) rfl (by simp at hf; simp [Act.eval, hf]) (by simp at hf; simp [Act.eval, hf])) ?_
          intro w8 hy
          simp only [FinA, Sp.R, forall_eq]
          simp only [Act.put, List.setIfInBounds_toArray, List.set_cons_succ, List.set_cons_zero]
          have H8 : Hid _ := HV.out w8 hy
          clear hy HV H4
          refine op_storeB rfl H8.out.2.1 (i := i) hi16 b (.tmp 31) (.tmp 27) rfl (by kernel_rfl) (by kernel_rfl) ?_
          intro w9 hb9 o9 hz9
          have H9 : Hid (Set w w9 B p c rv tv (.slice (some ⟨g, 0, none⟩) m fc) s sh (k + 1) i) := by
            have PG := Step.put_good GB.out.1 FB.out GB.out.2.1
            have hpl : Step.place bs = i := place_eq (by rw [GB.out.1.len]; exact hi16) h0 HI.out.2
            rw [hpl] at PG
            obtain rfl := PE.eq i hi16 h0 HI.out.2
            refine ⟨by rw [NX.out]; exact hb9, H8.out.2.2.1.only o9 (fun g' hg' hm => HP.out g' hg' (by simpa using hm)), H8.out.2.2.2.trans o9, by rw [NX.out]; exact PG.1, by rw [NX.out, PG.2, HM.out]; have := GB.out.2.1; have := GB.out.2.2.1; omega, fun j hj => ?_⟩
            rw [NX.out, Step.getD_set, if_neg (by omega)]
            exact HI.out.2 j hj
          clear hb9 o9 hz9 H8
          simp only [Act.put, List.setIfInBounds_toArray, List.set_cons_succ, List.set_cons_zero]
          refine wpList_nil ?_
          go_wp2_with fail
          go_roundg (m - k)
          case measure => omega
          case rel => exact ⟨k + 1, i, by go_num, rfl, by omega, by omega, by omega, H9.out⟩
        · have hlt2 : i < f := by
            rcases Nat.lt_or_ge i f with h | h
            · exact h
            · have : i = f := by omega
              subst this; exact absurd PS.out.2 h0
          have H0 : Hid (¬ (bs.getD i Body.zero).k = 0) := h0
          generalize (bs.getD i Body.zero).k = kb at ck h0
          go_wp2_with fail
          go_roundg (17 - (i + 1))
          case measure => omega
          case rel =>
            refine ⟨i + 1, by go_num, by omega, by omega, rfl, fun j hj => ?_⟩
            rcases Nat.lt_or_ge j i with h | h
            · exact HI.out.2 j h
            · have : j = i := by omega
              subst this; exact H0.out
end Go.Proofs.Ytngbannidbijmaa
