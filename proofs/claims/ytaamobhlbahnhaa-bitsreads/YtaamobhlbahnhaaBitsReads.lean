/- Proved: BitsReads returns true, for all bytes and every list of Fields. No condition. -/
import Derived.Test.YtaamobhlbahnhaaReadsW
namespace Go.Proofs.Ytaamobhlbahnhaa.bitsReads
open Go.ChangeShapes Go.WideShapes Go.ChangeAt Go.RowKit Bit
set_option linter.unusedVariables false

theorem came_read {w : World} {v : Value} {zs : List Int} (h : CameI .u8 w v zs) : ∃ a cap bs, v = .slice a bs.length cap ∧ ReadB w (.slice a bs.length cap) bs ∧ bs.length ≤ cap ∧ cap ≤ 9223372036854775807 := by
  obtain ⟨a, cap, rfl, h1, h2, h3, h4⟩ := h
  have e : (zs.map Int.toNat).length = zs.length := by simp
  refine ⟨a, cap, zs.map Int.toNat, by rw [e], ⟨fun x hx => ?_, a, cap, rfl, ?_⟩, by rw [e]; exact h1, by unfold maxLen at h2; omega⟩
  · obtain ⟨z, hz, rfl⟩ := List.mem_map.1 hx
    have := wf_u8 (h3 z hz)
    omega
  · rcases h4 with rfl | ⟨b, off, rfl, hb, hc⟩
    · exact Or.inl rfl
    · refine Or.inr ⟨b, off, rfl, hb, fun i hi => ?_⟩
      rw [e] at hi
      rw [hc i hi]
      have hz : zs.getD i 0 = zs[i] := by simp [List.getD_eq_getElem?_getD, hi]
      have hw := wf_u8 (h3 zs[i] (List.getElem_mem hi))
      have hm : (zs.map Int.toNat).getD i 0 = zs[i].toNat := by simp [List.getD_eq_getElem?_getD, hi]
      rw [hz, hm]
      congr 2
      omega

/-- where all lies: what never turns -/
structure Lay (B bl br b sb : Nat) (sv sv2 : Value) : Prop where
  n1 : bl ≠ b ∧ br ≠ b ∧ bl ≠ sb ∧ br ≠ sb ∧ b ≠ sb
  n2 : sv.ownBlock ≠ some sb ∧ sv2.ownBlock ≠ some b
  n3 : ∀ g, sv.ownBlock = some g → g < b
  o : B ≤ bl ∧ B ≤ br ∧ B ≤ b ∧ B ≤ sb
/-- what is so ahead of each round -/
structure St (B : Nat) (w0 : World) (bl br b sb : Nat) (sv sv2 : Value) (a : Option Addr) (n cap : Nat) (V : Nat → Nat) (N : Nat → Int) (G : Nat → Bool) (qs : List Nat) (w : World) (bi j p : Nat) : Prop where
  fl : Flds B w a n V N G
  vl : Var w bl (.slice a n cap)
  vr : Var w br (.pointer (some ⟨b, 0, none⟩))
  vi : Var w bi (.int .i64 j)
  rd : Rd w b sv qs p
  rr : RR w sb sv2 qs p false
  only : Only [] w0 w
  ni : bi ≠ b ∧ bi ≠ sb ∧ B ≤ bi

/-- what is so behind the Catch -/
structure Mid (B : Nat) (w0 : World) (bl br b sb : Nat) (sv sv2 : Value) (a : Option Addr) (n cap : Nat) (V : Nat → Nat) (N : Nat → Int) (G : Nat → Bool) (qs : List Nat) (w : World) (bi j pd pr : Nat) (sh : Bool) (bg : Nat) (val : Int) (bf : Nat) (code at_ : Int) : Prop where
  fl : Flds B w a n V N G
  vl : Var w bl (.slice a n cap)
  vr : Var w br (.pointer (some ⟨b, 0, none⟩))
  vi : Var w bi (.int .i64 j)
  rd : Rd w b sv qs pd
  rr : RR w sb sv2 qs pr sh
  vg : Var w bg (.int .u64 val)
  vf : Two w bf (.int .i64 code) (.int .i64 at_)
  only : Only [] w0 w
  ni : bi ≠ b ∧ bi ≠ sb ∧ B ≤ bi
  nf : bg ≠ sb ∧ bf ≠ sb
section
variable {B : Nat} {w0 : World} {bl br b sb : Nat} {sv sv2 : Value} {a : Option Addr} {n cap : Nat} {V : Nat → Nat} {N : Nat → Int} {G : Nat → Bool} {qs : List Nat} {w w' : World} {bi j pd pr pr' : Nat} {sh sh' : Bool} {bg : Nat} {val : Int} {bf : Nat} {code at_ : Int}
theorem Mid.keep (h : Mid B w0 bl br b sb sv sv2 a n cap V N G qs w bi j pd pr sh bg val bf code at_) (o : Only [] w w') : Mid B w0 bl br b sb sv sv2 a n cap V N G qs w' bi j pd pr sh bg val bf code at_ :=
  ⟨h.fl.only o (by simp), h.vl.only o (by simp), h.vr.only o (by simp), h.vi.only o (by simp), h.rd.only o (by simp) (by simp), h.rr.only o (by simp) (by simp), h.vg.only o (by simp), h.vf.only o (by simp), h.only.trans o, h.ni, h.nf⟩
theorem Mid.ref (h : Mid B w0 bl br b sb sv sv2 a n cap V N G qs w bi j pd pr sh bg val bf code at_) (ly : Lay B bl br b sb sv sv2) (hB : B = w0.heap.size) (r : RR w' sb sv2 qs pr' sh') (o : Only [sb] w w') : Mid B w0 bl br b sb sv sv2 a n cap V N G qs w' bi j pd pr' sh' bg val bf code at_ :=
  ⟨h.fl.only o (by simpa using ly.o.2.2.2), h.vl.only o (by simpa using ly.n1.2.2.1), h.vr.only o (by simpa using ly.n1.2.2.2.1), h.vi.only o (by simpa using h.ni.2.1), h.rd.only o (by simpa using ly.n1.2.2.2.2) (fun g hg hm => ly.n2.1 ((by simpa using hm : g = sb) ▸ hg)), r, h.vg.only o (by simpa using h.nf.1), h.vf.only o (by simpa using h.nf.2), h.only.then o (by simp; have := ly.o.2.2.2; omega), h.ni, h.nf⟩
/-- from the round's beginning to behind the Catch: only b, and new memory -/
theorem St.mid {p : Nat} (h : St B w0 bl br b sb sv sv2 a n cap V N G qs w bi j p) (ly : Lay B bl br b sb sv sv2) (hB : B = w0.heap.size) (o : Only [b] w w') (r : Rd w' b sv qs pd) (g : Var w' bg (.int .u64 val)) (f : Two w' bf (.int .i64 code) (.int .i64 at_)) (lg : w.heap.size ≤ bg) (lf : w.heap.size ≤ bf) :
    Mid B w0 bl br b sb sv sv2 a n cap V N G qs w' bi j pd p false bg val bf code at_ := by
  have ls : sb < w.heap.size := by
    obtain ⟨t, ht⟩ := h.rr.three
    rcases Nat.lt_or_ge sb w.heap.size with g | g
    · exact g
    · rw [Array.getElem?_eq_none g] at ht; cases ht
  exact ⟨h.fl.only o (by simpa using ly.o.2.2.1), h.vl.only o (by simpa using ly.n1.1), h.vr.only o (by simpa using ly.n1.2.1), h.vi.only o (by simpa using h.ni.1), r, h.rr.only o (by simpa using fun e => ly.n1.2.2.2.2 (Eq.symm e)) (fun g hg hm => ly.n2.2 ((by simpa using hm : g = b) ▸ hg)), g, f, h.only.then o (by simp; have := ly.o.2.2.1; omega), h.ni, by omega, by omega⟩
/-- the next round -/
theorem Mid.st {t : TypeId} (h : Mid B w0 bl br b sb sv sv2 a n cap V N G qs w bi j pd pd false bg val bf code at_) : St B w0 bl br b sb sv sv2 a n cap V N G qs (w.alloc (.cells #[.int .i64 ((j : Int) + 1)] t)) w.heap.size (j + 1) pd := by
  have o : Only [] w (w.alloc (.cells #[.int .i64 ((j : Int) + 1)] t)) := (Only.refl _ _).alloc _
  have l1 := h.rd.two.lt
  have l2 : sb < w.heap.size := by
    obtain ⟨t, ht⟩ := h.rr.three
    rcases Nat.lt_or_ge sb w.heap.size with g | g
    · exact g
    · rw [Array.getElem?_eq_none g] at ht; cases ht
  have l3 := h.vi.lt
  have l4 := h.ni
  refine ⟨h.fl.only o (by simp), h.vl.only o (by simp), h.vr.only o (by simp), ?_, h.rd.only o (by simp) (by simp), h.rr.only o (by simp) (by simp), h.only.trans o, by omega, by omega, by omega⟩
  have := Var.new w (.int .i64 ((j : Int) + 1)) t
  simpa using this
end

set_option maxRecDepth 100000 in
set_option maxHeartbeats 4000000 in
theorem walk (s0 : Value) (a0 : List Int) (s1 : Value) (n1 : Nat) (a1 : Nat → List Value) (w : World) (w0 : CameI .u8 w s0 a0) (w1 : CameG 3 FieldE w s1 n1 a1) :
    Calls Try.prog 5 #[s0, s1] w fun e w' => e = .returned (.bool true) ∧ Below w.heap.size w w' := by
  have hnot : ∀ (x : Bool) (w : World), (Op.unary .not (.bool x)).run Try.prog w = .ok (.bool (!x)) w := fun _ _ => rfl
  have hmf : ∀ (fn : Fn) (first cap : Array Value) (w : World), (Instr.makeFunc fn first cap).run Try.prog w = .ok (.func fn first cap) w := fun _ _ _ _ => rfl
  obtain ⟨a, cap, V, N, G, rfl, hn1, fl⟩ := flds_of w1
  obtain ⟨ab, cb, bs, rfl, hrb, hlb, hmb⟩ := came_read w0
  clear w0 w1 a0 a1
  have FL : Hid (Flds w.heap.size w a n1 V N G) := fl
  have RB0 : Hid (ReadB w (.slice ab bs.length cb) bs) := hrb
  clear fl hrb
  obtain ⟨M, hM⟩ : ∃ M, min n1 40 = M := ⟨_, rfl⟩
  have hM40 : M ≤ 40 := by omega
  have HM : Hid _ := hM
  clear hM
  have hql : (bs.take 60).length ≤ 60 := by rw [List.length_take]; omega
  have HQ8 : Hid (∀ x ∈ bs.take 60, x < 256) := fun x hx => RB0.out.lt x (List.mem_of_mem_take hx)
  obtain ⟨B, hB⟩ : ∃ B, w.heap.size = B := ⟨_, rfl⟩
  have HB : Hid _ := hB
  clear hB
  go_enter Try.func5, Try.ntmps5
  go_wp2_with fail
  obtain ⟨x1, e1⟩ : ∃ x1, x1 = w.alloc (.cells #[.slice a n1 cap] 39) := ⟨_, rfl⟩
  have o1 : Only [] w x1 := e1 ▸ (Only.refl _ _).alloc _
  have H1 : Hid (Var x1 B (.slice a n1 cap) ∧ Only [] w x1 ∧ ReadB x1 (.slice ab bs.length cb) bs) := ⟨by have h := Var.new w (.slice a n1 cap) 39; rw [← e1, HB.out] at h; exact h, o1, RB0.out.only o1 (by simp)⟩
  have s1 : x1.heap.size = B + 1 := by rw [e1]; simp; exact HB.out
  rw [← e1, HB.out]
  clear e1 o1
  have S1 : Hid _ := s1
  clear s1
  refine (few_any ab cb bs 60 x1 H1.out.2.2 hlb hmb (by omega)).mono ?_
  rintro e x2 ⟨v2, rfl, r2, o2⟩
  have H2 : Hid (Var x2 B (.slice a n1 cap) ∧ Only [] w x2 ∧ ReadB x2 (.slice ab bs.length cb) bs ∧ ReadB x2 v2 (bs.take 60)) := ⟨H1.out.1.only o2 (by simp), H1.out.2.1.trans o2, H1.out.2.2.only o2 (by simp), r2.read HQ8.out⟩
  have l2 : B + 1 ≤ x2.heap.size := by have := o2.size; have := S1.out; omega
  clear r2 o2 H1
  generalize hqs : bs.take 60 = qs at *
  have HQS : Hid _ := hqs
  clear hqs
  go_wp2_with fail
  refine (newReader_any v2 qs x2 H2.out.2.2.2 (by omega)).mono ?_
  rintro e x3 ⟨b, sv, rfl, hb, hsv, r3, o3⟩
  have H3 : Hid (Var x3 B (.slice a n1 cap) ∧ Only [] w x3 ∧ ReadB x3 (.slice ab bs.length cb) bs ∧ Rd x3 b sv qs 0) := ⟨H2.out.1.only o3 (by simp), H2.out.2.1.trans o3, H2.out.2.2.1.only o3 (by simp), r3⟩
  have lb : b < x3.heap.size := r3.two.lt
  have HSV : Hid (∀ g, sv.ownBlock = some g → x2.heap.size ≤ g ∧ g < b) := hsv
  clear hsv r3 o3 H2
  go_wp2_with fail
  obtain ⟨x4, e4⟩ : ∃ x4, x4 = x3.alloc (.cells #[.pointer (some ⟨b, 0, none⟩)] 28) := ⟨_, rfl⟩
  have o4 : Only [] x3 x4 := e4 ▸ (Only.refl _ _).alloc _
  have H4 : Hid (Var x4 B (.slice a n1 cap) ∧ Only [] w x4 ∧ ReadB x4 (.slice ab bs.length cb) bs ∧ Rd x4 b sv qs 0 ∧ Var x4 x3.heap.size (.pointer (some ⟨b, 0, none⟩))) := ⟨H3.out.1.only o4 (by simp), H3.out.2.1.trans o4, H3.out.2.2.1.only o4 (by simp), H3.out.2.2.2.only o4 (by simp) (by simp), e4 ▸ Var.new _ _ _⟩
  rw [← e4]
  clear e4 o4 H3
  generalize x3.heap.size = br at *
  refine (known_any x4).mono ?_
  rintro e x5 ⟨rfl, o5⟩
  have H5 : Hid (Var x5 B (.slice a n1 cap) ∧ Only [] w x5 ∧ ReadB x5 (.slice ab bs.length cb) bs ∧ Rd x5 b sv qs 0 ∧ Var x5 br (.pointer (some ⟨b, 0, none⟩))) := ⟨H4.out.1.only o5 (by simp), H4.out.2.1.trans o5, H4.out.2.2.1.only o5 (by simp), H4.out.2.2.2.1.only o5 (by simp) (by simp), H4.out.2.2.2.2.only o5 (by simp)⟩
  clear o5 H4
  have c5 := H5.out.2.2.2.2.cell
  go_wp2_with fail
  refine (few_any ab cb bs 60 x5 H5.out.2.2.1 hlb hmb (by omega)).mono ?_
  rintro e x6 ⟨v6, rfl, r6, o6⟩
  rw [HQS.out] at r6
  obtain ⟨_, a6, c6, rfl, _⟩ := r6.read HQ8.out
  have l5 := H5.out.2.2.2.2.lt
  have HV6 : Hid (∀ g, (Value.slice a6 qs.length c6).ownBlock = some g → x5.heap.size ≤ g ∧ g < x6.heap.size) := fun g hg => World.ownsRow.lt r6 g hg
  have H6 : Hid (Var x6 B (.slice a n1 cap) ∧ Only [] w x6 ∧ ReadB x6 (.slice a6 qs.length c6) qs ∧ Rd x6 b sv qs 0 ∧ Var x6 br (.pointer (some ⟨b, 0, none⟩))) := ⟨H5.out.1.only o6 (by simp), H5.out.2.1.trans o6, r6.read HQ8.out, H5.out.2.2.2.1.only o6 (by simp) (by simp), H5.out.2.2.2.2.only o6 (by simp)⟩
  have l6 : x5.heap.size ≤ x6.heap.size := o6.size
  clear r6 o6 H5 c5
  go_upto_block 0 with fail
  obtain ⟨x7, e7⟩ : ∃ x7, x7 = x6.alloc (.cells #[.slice a6 qs.length c6, .int .i64 0, .bool false] 50) := ⟨_, rfl⟩
  obtain ⟨x8, e8⟩ : ∃ x8, x8 = x7.alloc (.cells #[.int .i64 0] 3) := ⟨_, rfl⟩
  have o7 : Only [] x6 x7 := e7 ▸ (Only.refl _ _).alloc _
  have o8 : Only [] x7 x8 := e8 ▸ (Only.refl _ _).alloc _
  have s7 : x7.heap.size = x6.heap.size + 1 := by rw [e7]; simp
  have LY : Hid (Lay B B br b x6.heap.size sv (.slice a6 qs.length c6)) :=
    ⟨⟨by omega, by omega, by omega, by omega, by omega⟩, ⟨fun e => by have := HSV.out _ e; omega, fun e => by have := HV6.out _ e; omega⟩, fun g hg => (HSV.out g hg).2, by omega⟩
  have ST0 : Hid (St B w B br b x6.heap.size sv (.slice a6 qs.length c6) a n1 cap V N G qs x8 (x6.heap.size + 1) 0 0) := by
    have o := o7.trans o8
    have t7 : Three x7 x6.heap.size (.slice a6 qs.length c6) (.int .i64 0) (.bool false) := e7 ▸ Three.new _ _ _ _ _
    have fl := FL.out
    rw [HB.out] at fl
    refine ⟨Flds.only fl (H6.out.2.1.trans o) (by simp), H6.out.1.only o (by simp), H6.out.2.2.2.2.only o (by simp), ?_, H6.out.2.2.2.1.only o (by simp) (by simp), ⟨t7.only o8 (by simp), H6.out.2.2.1.only o (by simp), fun e => by have := HV6.out _ e; omega, Nat.zero_le _⟩, H6.out.2.1.trans o, by omega, by omega, by omega⟩
    have := Var.new x7 (.int .i64 0) 3
    rw [← e8, s7] at this
    exact this
  rw [← e7, ← e8]
  clear e7 e8 o7 o8 s7 H6 HV6 HSV
  generalize x6.heap.size = sb at *
  obtain ⟨sv2, hsv2⟩ : ∃ sv2, sv2 = Value.slice a6 qs.length c6 := ⟨_, rfl⟩
  rw [← hsv2] at LY ST0
  have HS2 : Hid _ := hsv2
  clear hsv2
  go_wp2_with fail
  go_loopg [7] 41 (fun gk v7 wr => ∃ (bi j p : Nat), v7 = .pointer (some ⟨bi, 0, none⟩) ∧ j ≤ M ∧ 41 - j ≤ gk ∧ Hid (St B w B br b sb sv sv2 a n1 cap V N G qs wr bi j p))
  case atStart => exact ⟨sb + 1, 0, 0, rfl, by omega, by omega, ST0.out⟩
  case round =>
    obtain ⟨bi, j, p, rfl, hj, hg, HR⟩ := hrel
    have c1 := HR.out.vi.cell
    have c2 := HR.out.vl.cell
    have c3 := HR.out.rr.three.cell1
    by_cases hlt : j < M
    · have z0 : (0 : Int) ≤ (j : Int) := by omega
      have z1 : (j : Int) < (n1 : Int) := by have := HM.out; omega
      have z2 : (j : Int) < 40 := by omega
      have zj : j < n1 := by omega
      go_wp2_with fail
      obtain ⟨y1, e1⟩ : ∃ y1, y1 = wr.alloc (.cells #[.int .u64 0] 27) := ⟨_, rfl⟩
      have o1 : Only [] wr y1 := e1 ▸ (Only.refl _ _).alloc _
      have g1 : Var y1 wr.heap.size (.int .u64 0) := e1 ▸ Var.new _ _ _
      have s1 : y1.heap.size = wr.heap.size + 1 := by rw [e1]; simp
      rw [← e1]
      obtain ⟨bg, hbg⟩ : ∃ bg, wr.heap.size = bg := ⟨_, rfl⟩
      rw [hbg] at g1 s1
      rw [hbg]
      have ic := inCatch_only y1
      have oi : Only [] wr (inCatch y1) := o1.trans ic
      have bB : ∀ x, x < wr.heap.size → x ≠ bg := fun x h => by omega
      have lbw : b < wr.heap.size := HR.out.rd.two.lt
      have EV : Hid (Env (inCatch y1) B bi br bg b a n1 cap j sv qs p (N j) (G j)) := by
        obtain ⟨hV, b0, o, ha, hb0, hbw, d0, d1, d2⟩ := HR.out.fl j zj
        refine ⟨HR.out.vl.only oi (by simp), HR.out.vi.only oi (by simp), HR.out.vr.only oi (by simp), g1.only ic (by simp), HR.out.rd.only oi (by simp) (by simp), ⟨b0, o, ha, Nat.lt_of_lt_of_le hbw oi.size, by have := LY.out.o; omega, bB b0 hbw, ?_, ?_⟩, ⟨LY.out.n1.1, HR.out.ni.1, LY.out.n1.2.1, fun e => bB b lbw e.symm⟩, ⟨bB _ HR.out.vl.lt, bB _ HR.out.vi.lt, bB _ HR.out.vr.lt⟩, fun e => ?_⟩
        · rw [oi.cell (p := ⟨b0, o + j * 3 + 1, none⟩) hbw (by simp)]; exact d1
        · rw [oi.cell (p := ⟨b0, o + j * 3 + 2, none⟩) hbw (by simp)]; exact d2
        · have := LY.out.n3 bg e; omega
      clear e1
      by_cases hfit : p + sz (szr (N j)) ≤ 8 * qs.length
      · refine catch_any 26 _ [b, bg] _ (by simp; omega) (by simp; omega) (by simp [go_sem]) ?_
        refine (in_any (inCatch y1) B bi br bg b a n1 cap j sv qs p (N j) (G j) EV.out zj (by omega) hfit).mono ?_
        rintro e y2 ⟨rfl, o2, r2, g2⟩
        refine ⟨o2, _, .none _, ?_⟩
        intro y3 o3
        obtain ⟨K, hK⟩ : ∃ K, sz (szr (N j)) = K := ⟨_, rfl⟩
        rw [hK] at r2 g2 hfit
        have HK : Hid _ := hK
        clear hK
        obtain ⟨val, hval⟩ : ∃ val, gotV (G j) K (takenN qs p K) = val := ⟨_, rfl⟩
        rw [hval] at g2
        have HVAL : Hid _ := hval
        clear hval
        have o13 : Only [b] wr y3 := ((oi.weaken (by simp)).then o2 (by simp; omega)).then o3 (by simp; omega)
        have ls : y1.heap.size + 2 ≤ y3.heap.size := by have h2 := o2.size; have h3 := o3.size; rw [inCatch_size] at h2; omega
        go_upto_region 11 with fail
        obtain ⟨y4, e4⟩ : ∃ y4, y4 = y3.alloc (.cells #[.int .i64 0, .int .i64 0] 36) := ⟨_, rfl⟩
        have o4 : Only [] y3 y4 := e4 ▸ (Only.refl _ _).alloc _
        have M4 : Hid (Mid B w B br b sb sv sv2 a n1 cap V N G qs y4 bi j (p + K) p false bg val y3.heap.size 0 0) :=
          HR.out.mid LY.out HB.out.symm (o13.then o4 (by simp)) ((r2.only o3 (by simp; omega) (fun g hg hm => by have := LY.out.n3 g hg; simp at hm; omega)).only o4 (by simp) (by simp)) ((g2.only o3 (by simp; omega)).only o4 (by simp)) (e4 ▸ Two.new _ _ _ _) (by omega) (by omega)
        rw [← e4]
        clear e4 o4 o13 o3 o2 r2 g2 ic oi o1 g1 EV HR
        generalize y3.heap.size = bf at *
        obtain ⟨hV, b0, o, ha, hb0, hbw, f0, f1, f2⟩ := M4.out.fl j zj
        have q1 := M4.out.vl.cell
        rw [ha] at q1
        have HA : Hid _ := ha
        clear ha
        have q2 := M4.out.vi.cell
        go_upto_if 49 with fail
        have HE0 : Hid _ := hfit
        go_cut [10] (fun v10 wx => v10 = .int .u64 val ∧ Hid (Mid B w B br b sb sv sv2 a n1 cap V N G qs wx bi j (p + K) (p + K) false bg val bf 0 0))
        case first =>
          obtain ⟨gj, hgj⟩ : ∃ gj, G j = gj := ⟨_, rfl⟩
          rw [hgj] at f2 HVAL
          rw [hgj]
          clear hgj
          cases gj
          · go_wp2_with fail
            refine (szr_any _ _).mono ?_
            rintro e w' ⟨rfl, rfl⟩
            go_wp2_with fail
            refine (rget_any sb sv2 qs p (szr (N j)) (by omega) y4 M4.out.rr (by rw [HK.out]; exact hfit)).mono ?_
            rintro e y5 ⟨rfl, r5, o5⟩
            rw [HK.out] at r5
            have M5 : Hid _ := M4.out.ref LY.out HB.out.symm r5 o5
            rw [HK.out, show ((takenN qs p K : Nat) : Int) = val from HVAL.out]
            clear r5 o5 M4
            go_wp2_with fail
            go_meet
            exact ⟨rfl, M5.out⟩
          · go_wp2_with fail
            refine (szr_any _ _).mono ?_
            rintro e w' ⟨rfl, rfl⟩
            go_wp2_with fail
            refine (rsget_any sb sv2 qs p (szr (N j)) (by omega) y4 M4.out.rr (by rw [HK.out]; exact hfit)).mono ?_
            rintro e y5 ⟨rfl, r5, o5⟩
            rw [HK.out] at r5
            have M5 : Hid _ := M4.out.ref LY.out HB.out.symm r5 o5
            rw [HK.out]
            have HVAL2 : Hid (IntKind.u64.wrap (sgn K (takenN qs p K)) = val) := HVAL.out
            clear r5 o5 M4
            go_wp2_with fail
            go_meet
            exact ⟨by rw [← HVAL2.out], M5.out⟩
        case rest =>
          obtain ⟨rfl, Z4⟩ := hcut
          clear HE0
          have Z5 : Hid _ := Z4.out.keep (only_drew wc)
          obtain ⟨L8, hL8⟩ : ∃ L8, 8 * qs.length = L8 := ⟨_, rfl⟩
          obtain ⟨R8, hR8⟩ : ∃ R8, 8 * qs.length - (p + K) = R8 := ⟨_, rfl⟩
          have hle9 := Z5.out.rd.le
          have hw1 : IntKind.i64.wrap (8 * (qs.length : Int)) = (L8 : Int) := by rw [IntWalk.i64_in _ (by omega)]; omega
          have hw2 : IntKind.i64.wrap ((L8 : Int) - ((p + K : Nat) : Int)) = (R8 : Int) := by rw [IntWalk.i64_in _ (by omega)]; omega
          have HR8 : Hid _ := hR8
          obtain ⟨pd, hpe⟩ : ∃ pd, p + K = pd := ⟨_, rfl⟩
          rw [hpe] at hw2 Z5
          have HPE : Hid _ := hpe
          clear hL8 hR8 hle9 hpe
          go_wp2_with fail
          refine wp_region_by (Only []) (Only.refl []) Only.trans [(5, .pointer (some ⟨br, 0, none⟩)), (6, .pointer (some ⟨sb, 0, none⟩)), (8, .int .i64 (p : Int)), (9, .pointer (some ⟨bg, 0, none⟩)), (10, .int .u64 val), (11, .pointer (some ⟨bf, 0, none⟩)), (12, .bool false)] (by intro p hp; simp only [List.mem_cons, List.not_mem_nil, or_false] at hp; rcases hp with rfl | rfl | rfl | rfl | rfl | rfl | rfl <;> rfl) (by kernel_rfl) (by kernel_rfl) (fun _ => True) trivial ?_
          repeat (
              first
              | (apply rb_val
                 · first | rfl | exact ⟨by kernel_rfl, rfl⟩
                 · intro a y hT hf
                   have m1 := (Z5.out.keep hT).rr.three.cell0
                   rw [HS2.out] at m1
                   have m2 := (Z5.out.keep hT).rr.three.cell1
                   have m3 := (Z5.out.keep hT).rr.three.cell2
                   have m4 := (Z5.out.keep hT).vg.cell
                   have m5 := (Z5.out.keep hT).vf.cell0
                   have m6 := (Z5.out.keep hT).vf.cell1
                   have m7 := (Z5.out.keep hT).vr.cell
                   simp at hf
                   go_simp
                   try rfl)
              | (apply rb_skip
                 · exact ⟨by kernel_rfl, rfl⟩))
          refine rb_call (fun _ v => v = .int .i64 (R8 : Int)) (fun _ => True) (by first | rfl | exact ⟨by kernel_rfl, rfl⟩) (by kernel_rfl) (fun _ _ _ _ h => h) (fun a y _ hT hf => ?_) ?_
          · simp at hf
            go_simp
            refine (left_any b sv qs pd (by omega) _ (Z5.out.keep hT).rd).mono ?_
            rintro e y' ⟨rfl, m, rfl⟩
            exact ⟨_, rfl, by rw [← HPE.out, HR8.out], only_drewN _ _⟩
          repeat (
              first
              | (apply rb_val
                 · first | rfl | exact ⟨by kernel_rfl, rfl⟩
                 · intro a y hT hf
                   have m1 := (Z5.out.keep hT).rr.three.cell0
                   rw [HS2.out] at m1
                   have m2 := (Z5.out.keep hT).rr.three.cell1
                   have m3 := (Z5.out.keep hT).rr.three.cell2
                   have m4 := (Z5.out.keep hT).vg.cell
                   have m5 := (Z5.out.keep hT).vf.cell0
                   have m6 := (Z5.out.keep hT).vf.cell1
                   have m7 := (Z5.out.keep hT).vr.cell
                   simp at hf
                   go_simp
                   try rfl)
              | (apply rb_skip
                 · exact ⟨by kernel_rfl, rfl⟩))
          intro y _ hy
          simp only [FinA, Sp.R, forall_eq]
          simp only [Act.put, List.setIfInBounds_toArray, List.set_cons_succ, List.set_cons_zero]
          have Z6 : Hid _ := Z5.out.keep hy
          clear hy Z5 Z4
          have k1 := Z6.out.rr.three.cell2
          have k2 := Z6.out.rr.three.frozen 2
          obtain ⟨y7, e7⟩ : ∃ y7, y7 = y.setCell ⟨sb, 2, none⟩ (.bool false) := ⟨_, rfl⟩
          have Z7 : Hid _ := Z6.out.ref LY.out HB.out.symm (pr' := pd) (sh' := false) (w' := y7) (by rw [e7]; exact ⟨Z6.out.rr.three.set2 _, Z6.out.rr.read.only ((Only.refl [sb] _).setCell (by simp) _) (fun g hg hm => Z6.out.rr.apart ((by simpa using hm : g = sb) ▸ hg)), Z6.out.rr.apart, Z6.out.rr.le⟩) (by rw [e7]; exact (Only.refl [sb] _).setCell (by simp) _)
          clear Z6
          go_upto_region 17 with fail
          rw [← e7]
          clear e7 k1 k2
          have k3 := Z7.out.vi.cell
          have li := Z7.out.vi.lt
          go_wp2_with fail
          have ST9 : Hid _ := Z7.out.st (t := 3)
          clear Z7 k3
          go_roundg (41 - (j + 1))
          case measure => omega
          case rel => exact ⟨y7.heap.size, j + 1, pd, rfl, by omega, Nat.le_refl _, ST9.out⟩
      · have hfit : 8 * qs.length < p + sz (szr (N j)) := by omega
        refine catch_any 26 _ [] _ (by simp) (by simp) (by simp [go_sem]) ?_
        refine (in_lack (inCatch y1) B bi br bg b a n1 cap j sv qs p (N j) (G j) EV.out zj (by omega) hfit).mono ?_
        rintro e y2 ⟨rfl, o2⟩
        refine ⟨o2, _, .thrown 100 p [] (by simp), ?_⟩
        intro y3 o3
        have o13 : Only [b] wr y3 := ((oi.weaken (by simp)).then o2 (by simp)).then o3 (by simp; omega)
        have ls : y1.heap.size + 2 ≤ y3.heap.size := by have h2 := o2.size; have h3 := o3.size; rw [inCatch_size] at h2; omega
        have oo : Only [y1.heap.size, y1.heap.size + 1] y1 y3 := ((ic.trans o2).weaken (by simp)).trans o3
        go_upto_region 11 with fail
        obtain ⟨y4, e4⟩ : ∃ y4, y4 = y3.alloc (.cells #[.int .i64 100, .int .i64 p] 36) := ⟨_, rfl⟩
        have o4 : Only [] y3 y4 := e4 ▸ (Only.refl _ _).alloc _
        have M4 : Hid (Mid B w B br b sb sv sv2 a n1 cap V N G qs y4 bi j p p false bg 0 y3.heap.size 100 p) :=
          HR.out.mid LY.out HB.out.symm (o13.then o4 (by simp)) ((((HR.out.rd.only o1 (by simp) (by simp))).only oo (by simp; omega) (fun g hg hm => by have := LY.out.n3 g hg; simp at hm; omega)).only o4 (by simp) (by simp)) ((g1.only oo (by simp; omega)).only o4 (by simp)) (e4 ▸ Two.new _ _ _ _) (by omega) (by omega)
        rw [← e4]
        clear e4 o4 o13 o3 o2 oo ic oi o1 g1 EV HR
        generalize y3.heap.size = bf at *
        obtain ⟨hV, b0, o, ha, hb0, hbw, f0, f1, f2⟩ := M4.out.fl j zj
        have q1 := M4.out.vl.cell
        rw [ha] at q1
        have HA : Hid _ := ha
        clear ha
        have q2 := M4.out.vi.cell
        go_upto_if 49 with fail
        have HE0 : Hid _ := hfit
        go_cut [10] (fun v10 wx => v10 = .int .u64 0 ∧ Hid (Mid B w B br b sb sv sv2 a n1 cap V N G qs wx bi j p p true bg 0 bf 100 p))
        case first =>
          obtain ⟨gj, hgj⟩ : ∃ gj, G j = gj := ⟨_, rfl⟩
          rw [hgj] at f2
          rw [hgj]
          clear hgj
          cases gj
          · go_wp2_with fail
            refine (szr_any _ _).mono ?_
            rintro e w' ⟨rfl, rfl⟩
            go_wp2_with fail
            refine (rget_lack sb sv2 qs p (szr (N j)) (by omega) y4 M4.out.rr hfit).mono ?_
            rintro e y5 ⟨rfl, r5, o5⟩
            have M5 : Hid _ := M4.out.ref LY.out HB.out.symm r5 o5
            clear r5 o5 M4
            go_wp2_with fail
            go_meet
            exact ⟨rfl, M5.out⟩
          · go_wp2_with fail
            refine (szr_any _ _).mono ?_
            rintro e w' ⟨rfl, rfl⟩
            go_wp2_with fail
            refine (rsget_lack sb sv2 qs p (szr (N j)) (by omega) y4 M4.out.rr hfit).mono ?_
            rintro e y5 ⟨rfl, r5, o5⟩
            have M5 : Hid _ := M4.out.ref LY.out HB.out.symm r5 o5
            clear r5 o5 M4
            go_wp2_with fail
            go_meet
            exact ⟨rfl, M5.out⟩
        case rest =>
          obtain ⟨rfl, Z4⟩ := hcut
          clear HE0
          have Z5 : Hid _ := Z4.out.keep (only_drew wc)
          obtain ⟨L8, hL8⟩ : ∃ L8, 8 * qs.length = L8 := ⟨_, rfl⟩
          obtain ⟨R8, hR8⟩ : ∃ R8, 8 * qs.length - (p) = R8 := ⟨_, rfl⟩
          have hle9 := Z5.out.rd.le
          have hw1 : IntKind.i64.wrap (8 * (qs.length : Int)) = (L8 : Int) := by rw [IntWalk.i64_in _ (by omega)]; omega
          have hw2 : IntKind.i64.wrap ((L8 : Int) - ((p : Nat) : Int)) = (R8 : Int) := by rw [IntWalk.i64_in _ (by omega)]; omega
          have HR8 : Hid _ := hR8
          clear hL8 hR8 hle9
          go_wp2_with fail
          refine wp_region_by (Only []) (Only.refl []) Only.trans [(5, .pointer (some ⟨br, 0, none⟩)), (6, .pointer (some ⟨sb, 0, none⟩)), (8, .int .i64 (p : Int)), (9, .pointer (some ⟨bg, 0, none⟩)), (10, .int .u64 0), (11, .pointer (some ⟨bf, 0, none⟩)), (12, .bool true)] (by intro p hp; simp only [List.mem_cons, List.not_mem_nil, or_false] at hp; rcases hp with rfl | rfl | rfl | rfl | rfl | rfl | rfl <;> rfl) (by kernel_rfl) (by kernel_rfl) (fun _ => True) trivial ?_
          repeat (
              first
              | (apply rb_val
                 · first | rfl | exact ⟨by kernel_rfl, rfl⟩
                 · intro a y hT hf
                   have m1 := (Z5.out.keep hT).rr.three.cell0
                   rw [HS2.out] at m1
                   have m2 := (Z5.out.keep hT).rr.three.cell1
                   have m3 := (Z5.out.keep hT).rr.three.cell2
                   have m4 := (Z5.out.keep hT).vg.cell
                   have m5 := (Z5.out.keep hT).vf.cell0
                   have m6 := (Z5.out.keep hT).vf.cell1
                   have m7 := (Z5.out.keep hT).vr.cell
                   simp at hf
                   go_simp
                   try rfl)
              | (apply rb_skip
                 · exact ⟨by kernel_rfl, rfl⟩))
          refine rb_call (fun _ v => v = .int .i64 (R8 : Int)) (fun _ => True) (by first | rfl | exact ⟨by kernel_rfl, rfl⟩) (by kernel_rfl) (fun _ _ _ _ h => h) (fun a y _ hT hf => ?_) ?_
          · simp at hf
            go_simp
            refine (left_any b sv qs p (by omega) _ (Z5.out.keep hT).rd).mono ?_
            rintro e y' ⟨rfl, m, rfl⟩
            exact ⟨_, rfl, by rw [HR8.out], only_drewN _ _⟩
          repeat (
              first
              | (apply rb_val
                 · first | rfl | exact ⟨by kernel_rfl, rfl⟩
                 · intro a y hT hf
                   have m1 := (Z5.out.keep hT).rr.three.cell0
                   rw [HS2.out] at m1
                   have m2 := (Z5.out.keep hT).rr.three.cell1
                   have m3 := (Z5.out.keep hT).rr.three.cell2
                   have m4 := (Z5.out.keep hT).vg.cell
                   have m5 := (Z5.out.keep hT).vf.cell0
                   have m6 := (Z5.out.keep hT).vf.cell1
                   have m7 := (Z5.out.keep hT).vr.cell
                   simp at hf
                   go_simp
                   try rfl)
              | (apply rb_skip
                 · exact ⟨by kernel_rfl, rfl⟩))
          intro y _ hy
          simp only [FinA, Sp.R, forall_eq]
          simp only [Act.put, List.setIfInBounds_toArray, List.set_cons_succ, List.set_cons_zero]
          have Z6 : Hid _ := Z5.out.keep hy
          clear hy Z5 Z4
          have k1 := Z6.out.rr.three.cell2
          have k2 := Z6.out.rr.three.frozen 2
          obtain ⟨y7, e7⟩ : ∃ y7, y7 = y.setCell ⟨sb, 2, none⟩ (.bool false) := ⟨_, rfl⟩
          have Z7 : Hid _ := Z6.out.ref LY.out HB.out.symm (pr' := p) (sh' := false) (w' := y7) (by rw [e7]; exact ⟨Z6.out.rr.three.set2 _, Z6.out.rr.read.only ((Only.refl [sb] _).setCell (by simp) _) (fun g hg hm => Z6.out.rr.apart ((by simpa using hm : g = sb) ▸ hg)), Z6.out.rr.apart, Z6.out.rr.le⟩) (by rw [e7]; exact (Only.refl [sb] _).setCell (by simp) _)
          clear Z6
          go_upto_region 17 with fail
          rw [← e7]
          clear e7 k1 k2
          have k3 := Z7.out.vi.cell
          have li := Z7.out.vi.lt
          go_wp2_with fail
          have ST9 : Hid _ := Z7.out.st (t := 3)
          clear Z7 k3
          go_roundg (41 - (j + 1))
          case measure => omega
          case rel => exact ⟨y7.heap.size, j + 1, p, rfl, by omega, Nat.le_refl _, ST9.out⟩
    · obtain rfl : j = M := by omega
      have HF : Hid (¬ ((j : Int) < (n1 : Int) ∧ (j : Int) < 40)) := by have := HM.out; show ¬ _; omega
      by_cases z1 : (j : Int) < (n1 : Int)
      · have z2 : ¬ (j : Int) < 40 := fun h => HF.out ⟨z1, h⟩
        go_wp2_with fail
        go_ret
        exact ⟨rfl, HR.out.only.below (Nat.le_refl _) (by simp)⟩
      · go_wp2_with fail
        go_ret
        exact ⟨rfl, HR.out.only.below (Nat.le_refl _) (by simp)⟩

set_option maxRecDepth 100000 in
theorem lifted (os : Os) (started : os.Started) (H : Type) (enc : TypeId × Value → H) :
    ReturnsInHanded {} Try.checked os 5 .any (Rows.bitsReadsSpec.pre6 enc Try.prog Try.f5 Rows.bitsReadsRow.domain false) (Rows.bitsReadsSpec.post enc Try.prog Try.f5 false true false false) := by
  refine returnsInHanded_of_change (C := Try.checked) own started (by kernel_rfl) Try.func5
    (ChangeSpec.witness6 (enc := enc) (C := Try.checked) false ⟨#[], #[.slice none 0 0, .slice none 0 0], []⟩ 8 (by kernel_rfl) (by kernel_rfl) (by kernel_rfl) (by kernel_rfl)) ?_
  intro W base args ds gs before hval0 hW hcnd _
  have hval : ∀ (j : Nat) t v, Try.f5.params[j]? = some t → args[j]? = some v → Value.okWide Try.prog W .any base t v := hval0
  have hW' := hW
  obtain ⟨p, q, hA0, hV, rfl, hfz, hnd⟩ := hW
  have hA : DataW.TrodAll enc Try.prog W 0 (fun _ => true) true Try.f5.params.toList args.toList ds p := hA0
  rw [Try.params5] at hA hval
  obtain ⟨v0, vs0, d0, ds0, p0, q0, hargs, rfl, rfl, h0, r0⟩ := trodAll_cons hA
  obtain ⟨v1, vs1, d1, ds1, p1, q1, rfl, rfl, rfl, h1, r1⟩ := trodAll_cons r0
  obtain ⟨rfl, rfl, rfl⟩ := trodAll_nil r1
  obtain rfl : args = #[v0, v1] := by cases args; simp_all
  obtain ⟨rfl, rfl⟩ := trodVars_none hV
  obtain ⟨e0, len0, cap0, rfl⟩ := okWide_slice Try.underlying30 (hval 0 30 v0 rfl rfl)
  have k0 := h0
  have lt0 : ∀ x ∈ p0, x.block < W.heap.size := by obtain ⟨m, hm⟩ := k0; exact DataW.trod_lt m _ _ _ hm
  obtain ⟨a0, w0⟩ := came_i Try.underlying30 Try.underlying5 (by kernel_rfl) h0
  obtain ⟨e1, len1, cap1, rfl⟩ := okWide_slice Try.underlying39 (hval 1 39 v1 rfl rfl)
  have k1 := h1
  have lt1 : ∀ x ∈ p1, x.block < W.heap.size := by obtain ⟨m, hm⟩ := k1; exact DataW.trod_lt m _ _ _ hm
  obtain ⟨a1, w1⟩ := came_g (c := 3) (E := FieldE) Try.underlying39 (by kernel_rfl) (by decide) fieldE h1
  clear hA0 hval0
  refine (walk _ a0 _ _ a1 W w0 w1).mono fun e W' ⟨he, bel⟩ => ?_
  subst he
  exact ⟨_, rfl, _, _, _, [], _, [], hW', trodAll_mk1 (shut_bool Try.underlying4 _), (trodAll_cons_mk (Below.trod laidOut (by kernel_rfl) (of_decide_eq_true (by kernel_rfl)) k0 bel lt0) (trodAll_cons_mk (Below.trod laidOut (by kernel_rfl) (of_decide_eq_true (by kernel_rfl)) k1 bel lt1) trodAll_mk0)), rfl, bel.frame _, fun h => by cases h⟩

theorem over : Rows.bitsReadsRow.holds Try.pinned (OpenSpec.ofChange Rows.bitsReadsSpec) :=
  OpenClaim.holds_of_wide 5 Try.f5 rfl rfl rfl rfl rfl rfl rfl ⟨rfl, rfl, rfl, rfl, rfl⟩ rfl rfl rfl rfl rfl (by kernel_rfl) Try.func5 (by kernel_rfl)
    (of_decide_eq_true (by kernel_rfl)) (by unfold Func.isWrapper; first | (rw [if_pos (by decide +kernel)]; kernel_rfl) | (rw [if_neg (by decide +kernel)]; exact ⟨rfl, rfl⟩))
    (fun os started H enc _ => lifted os started H enc)

/-- THE STATEMENT -/
theorem proved : Rows.BitsReadsSaid := over
end Go.Proofs.Ytaamobhlbahnhaa.bitsReads
