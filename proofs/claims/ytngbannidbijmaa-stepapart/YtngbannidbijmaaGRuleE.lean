/- Package rule: one op, whatever it is. Package rule: a run of ops. -/
import Derived.Test.YtngbannidbijmaaGRuleD0
import Derived.Deep.LoopGhost
namespace Go.Proofs.Ytngbannidbijmaa
open Go.RowKit
set_option linter.unusedVariables false
theorem reg_rng {b : Bd} (h : Body.some b = true) (k : Int) : -1000000 ≤ Rule.reg b k ∧ Rule.reg b k ≤ 1000000 := by
  have K := (Body.some_iff b).1 h
  unfold Rule.reg
  split
  · exact K.m0
  · split
    · exact K.m1
    · split
      · exact K.m2
      · exact K.m3
theorem do_any {B p n : Nat} {w : World} {m : Mch} {sh : List Bd} (h : St B p w m sh n) (o : Op3) : Calls Try.prog 93 #[.pointer (some ⟨p, 0, none⟩), o.v] w (DoPost B p w m (Rule.act n m.at_ o (m.e sh))) := by
  obtain ⟨c, a, b⟩ := o
  have er : (m.e sh).b = m.b := rfl
  have es : (m.e sh).sh = sh := rfl
  have ero : (m.e sh).room = m.room := rfl
  have ed : (m.e sh).d = m.d := rfl
  have rr := fun k => reg_rng h.ok k
  by_cases h1 : c = 1
  · subst h1
    cases ha : Rule.is a
    · exact do_1n h a b ha (by simp [Rule.act, ha])
    · obtain ⟨i, rfl, hi⟩ := is_nat ha
      exact do_1y h i hi b (by simp [Rule.act, ha, er])
  by_cases h2 : 2 ≤ c ∧ c ≤ 6
  · cases ha : Rule.is a
    · have hr : Rule.act n m.at_ ⟨c, a, b⟩ (m.e sh) = .fault 2 := by simp [Rule.act, h1, h2, ha]
      have h5 : c = 2 ∨ c = 3 ∨ c = 4 ∨ c = 5 ∨ c = 6 := by omega
      rcases h5 with rfl | rfl | rfl | rfl | rfl
      · exact do_2a h a b ha hr
      · exact do_3a h a b ha hr
      · exact do_4a h a b ha hr
      · exact do_5a h a b ha hr
      · exact do_6a h a b ha hr
    obtain ⟨i, rfl, hi⟩ := is_nat ha
    cases hb : Rule.is b
    · have hr : Rule.act n m.at_ ⟨c, i, b⟩ (m.e sh) = .fault 2 := by simp [Rule.act, h1, h2, ha, hb]
      have h5 : c = 2 ∨ c = 3 ∨ c = 4 ∨ c = 5 ∨ c = 6 := by omega
      rcases h5 with rfl | rfl | rfl | rfl | rfl
      · exact do_2b h i b hi hb hr
      · exact do_3b h i b hi hb hr
      · exact do_4b h i b hi hb hr
      · exact do_5b h i b hi hb hr
      · exact do_6b h i b hi hb hr
    obtain ⟨j, rfl, hj⟩ := is_nat hb
    by_cases hz : c = 6 ∧ Rule.reg m.b j = 0
    · obtain ⟨rfl, hz⟩ := hz
      exact do_6z h i j hi hj hz (by simp [Rule.act, ha, hb, er, hz])
    · have hr : Rule.act n m.at_ ⟨c, i, j⟩ (m.e sh) = .next { m.e sh with b := Rule.setr m.b i (Rule.clamp (Rule.reckon c (Rule.reg m.b i) (Rule.reg m.b j))) } (m.at_ + 1) := by
        simp only [Rule.act, if_neg h1, if_pos h2, ha, hb, er, Bool.and_self, if_true, if_neg hz]
      have h5 : c = 2 ∨ c = 3 ∨ c = 4 ∨ c = 5 ∨ c = 6 := by omega
      rcases h5 with rfl | rfl | rfl | rfl | rfl
      · exact do_2y h i j hi hj (rr i) (rr j) hr
      · exact do_3y h i j hi hj (rr i) (rr j) hr
      · exact do_4y h i j hi hj (rr i) (rr j) hr
      · exact do_5y h i j hi hj (rr i) (rr j) hr
      · exact do_6y h i j hi hj (fun e => hz ⟨rfl, e⟩) (rr i) (rr j) hr
  by_cases h7 : c = 7
  · subst h7
    cases ha : Rule.is a
    · exact do_7a h a b ha (by simp [Rule.act, ha])
    · obtain ⟨i, rfl, hi⟩ := is_nat ha
      cases hb : Body.btw b 0 7
      · exact do_7b h i hi b hb (by simp [Rule.act, ha, hb])
      · exact do_7y h i hi b hb (by simp [Rule.act, ha, hb, er])
  by_cases h8 : c = 8
  · subst h8
    cases hb : Rule.is b
    · exact do_8b h a b hb (by simp [Rule.act, hb])
    · obtain ⟨j, rfl, hj⟩ := is_nat hb
      cases ha : Rule.is a
      · exact do_8f h a j hj ha (by simp [Rule.act, ha, hb])
      · exact do_8y h a j hj ha (by simp [Rule.act, ha, hb, er])
  by_cases h9 : c = 9
  · subst h9
    cases ha : Rule.is a
    · exact do_9a h a b ha (by simp [Rule.act, ha])
    · obtain ⟨i, rfl, hi⟩ := is_nat ha
      by_cases hz : Rule.reg m.b i = 0
      · cases hb : Body.btw b 0 n
        · exact do_9f h i hi b hz hb (by simp [Rule.act, ha, hb, er, hz])
        · exact do_9y h i hi b hz hb (by simp [Rule.act, ha, hb, er, hz])
      · exact do_9n h i hi b hz (by simp [Rule.act, ha, er, hz])
  by_cases h10 : c = 10
  · subst h10
    cases hb : Body.btw b 0 n
    · exact do_10f h a b hb (by simp [Rule.act, hb])
    · exact do_10y h a b hb (by simp [Rule.act, hb])
  by_cases h11 : c = 11
  · subst h11
    cases ha : Rule.is a
    · exact do_11a h a b ha (by simp [Rule.act, ha])
    obtain ⟨i, rfl, hi⟩ := is_nat ha
    cases hb : Rule.is b
    · exact do_11b h i b hi hb (by simp [Rule.act, ha, hb])
    obtain ⟨j, rfl, hj⟩ := is_nat hb
    by_cases hz : 1 ≤ Rule.reg m.b j
    · exact do_11y h i j hi hj hz (by simp [Rule.act, ha, hb, er, ed, hz])
    · exact do_11f h i j hi hj hz (by simp only [Rule.act, ha, hb, er, if_neg hz]; simp)
  by_cases h12 : c = 12
  · subst h12
    cases ha : Rule.is a
    · exact do_12a h a b ha (by simp [Rule.act, ha])
    obtain ⟨i, rfl, hi⟩ := is_nat ha
    cases hb : Rule.is b
    · exact do_12b h i b hi hb (by simp [Rule.act, ha, hb])
    obtain ⟨j, rfl, hj⟩ := is_nat hb
    by_cases hz : (sh.length : Int) < m.room
    · exact do_12y h i j hi hj hz (by simp [Rule.act, ha, hb, er, es, ero, hz])
    · exact do_12f h i j hi hj hz (by simp only [Rule.act, ha, hb, er, es, ero, if_neg hz]; simp)
  by_cases h13 : c = 13
  · subst h13
    exact do_13 h a b (by simp [Rule.act])
  · exact do_x h c a b (by omega) (by simp [Rule.act, h1, h2, h7, h8, h9, h10, h11, h12, h13])

/-- what an op never turns, and what stays right -/
structure Keeps (n : Int) (e e' : Ev) : Prop where
  ok : Body.some e.b = true → Body.some e'.b = true
  k : e'.b.k = e.b.k
  o : e'.b.o = e.b.o
  age : e'.b.age = e.b.age
  f : e'.b.f = e.b.f
  t : e'.t = e.t
  ix : e'.ix = e.ix
  iy : e'.iy = e.iy
  room : e'.room = e.room
  sh : ∃ l, e'.sh = e.sh ++ l ∧ l.length ≤ n ∧ (∀ s ∈ l, s.k = 2 ∧ s.o = e.b.o ∧ (Body.some e.b = true → Body.some s = true)) ∧ (l = [] ∨ (e'.sh.length : Int) ≤ e.room)
theorem Keeps.refl (e : Ev) : Keeps 0 e e := ⟨id, rfl, rfl, rfl, rfl, rfl, rfl, rfl, rfl, [], by simp, by simp, by simp, Or.inl rfl⟩
theorem Keeps.trans {a b : Int} {x y z : Ev} (h : Keeps a x y) (k : Keeps b y z) : Keeps (a + b) x z := by
  obtain ⟨l1, e1, n1, p1, q1⟩ := h.sh
  obtain ⟨l2, e2, n2, p2, q2⟩ := k.sh
  refine ⟨fun g => k.ok (h.ok g), k.k.trans h.k, k.o.trans h.o, k.age.trans h.age, k.f.trans h.f, k.t.trans h.t, k.ix.trans h.ix, k.iy.trans h.iy, k.room.trans h.room, l1 ++ l2, by rw [e2, e1, List.append_assoc], by rw [List.length_append]; omega, fun s hs => ?_, ?_⟩
  · rcases List.mem_append.1 hs with g | g
    · exact p1 s g
    · obtain ⟨g1, g2, g3⟩ := p2 s g
      exact ⟨g1, g2.trans h.o, fun g4 => g3 (h.ok g4)⟩
  · rcases q2 with g | g
    · subst g
      rcases q1 with g2 | g2
      · left; simp [g2]
      · right; rw [e2]; simpa using g2
    · right; rw [← h.room]; exact g
theorem clamp_mem (n : Int) : -1000000 ≤ Rule.clamp n ∧ Rule.clamp n ≤ 1000000 := clamp_rng n
theorem setr_some {b : Bd} (k v : Int) (h : Body.some b = true) (hv : -1000000 ≤ v ∧ v ≤ 1000000) : Body.some (Rule.setr b k v) = true := by
  have K := (Body.some_iff b).1 h
  rw [Body.some_iff]
  unfold Rule.setr
  split
  · exact ⟨K.k, K.o, K.x, K.y, K.vx, K.vy, K.age, K.f, hv, K.m1, K.m2, K.m3⟩
  · split
    · exact ⟨K.k, K.o, K.x, K.y, K.vx, K.vy, K.age, K.f, K.m0, hv, K.m2, K.m3⟩
    · split
      · exact ⟨K.k, K.o, K.x, K.y, K.vx, K.vy, K.age, K.f, K.m0, K.m1, hv, K.m3⟩
      · exact ⟨K.k, K.o, K.x, K.y, K.vx, K.vy, K.age, K.f, K.m0, K.m1, K.m2, hv⟩
theorem put_some {b : Bd} (k v : Int) (h : Body.some b = true) : Body.some (Rule.put b k v) = true := by
  have K := (Body.some_iff b).1 h
  have w1 := within_rng v 0 4095 (by omega)
  have w2 := within_rng v (-64) 64 (by omega)
  rw [Body.some_iff]
  unfold Rule.put
  split
  · exact ⟨K.k, K.o, w1, K.y, K.vx, K.vy, K.age, K.f, K.m0, K.m1, K.m2, K.m3⟩
  · split
    · exact ⟨K.k, K.o, K.x, w1, K.vx, K.vy, K.age, K.f, K.m0, K.m1, K.m2, K.m3⟩
    · split
      · exact ⟨K.k, K.o, K.x, K.y, w2, K.vy, K.age, K.f, K.m0, K.m1, K.m2, K.m3⟩
      · exact ⟨K.k, K.o, K.x, K.y, K.vx, w2, K.age, K.f, K.m0, K.m1, K.m2, K.m3⟩
theorem shot_some {b : Bd} (x y : Int) (h : Body.some b = true) : Body.some (Body.shot b x y) = true := by
  have K := (Body.some_iff b).1 h
  rw [Body.some_iff]
  exact ⟨Or.inr rfl, K.o, K.x, K.y, within_rng _ _ _ (by omega), within_rng _ _ _ (by omega), by simp [Body.shot, Body.zero], by simp [Body.shot, Body.zero], by simp [Body.shot, Body.zero], by simp [Body.shot, Body.zero], by simp [Body.shot, Body.zero], by simp [Body.shot, Body.zero]⟩
theorem setr_same (b : Bd) (k v : Int) : (Rule.setr b k v).k = b.k ∧ (Rule.setr b k v).o = b.o ∧ (Rule.setr b k v).age = b.age ∧ (Rule.setr b k v).f = b.f := by
  unfold Rule.setr; split
  · exact ⟨rfl, rfl, rfl, rfl⟩
  · split
    · exact ⟨rfl, rfl, rfl, rfl⟩
    · split <;> exact ⟨rfl, rfl, rfl, rfl⟩
theorem put_same (b : Bd) (k v : Int) : (Rule.put b k v).k = b.k ∧ (Rule.put b k v).o = b.o ∧ (Rule.put b k v).age = b.age ∧ (Rule.put b k v).f = b.f := by
  unfold Rule.put; split
  · exact ⟨rfl, rfl, rfl, rfl⟩
  · split
    · exact ⟨rfl, rfl, rfl, rfl⟩
    · split <;> exact ⟨rfl, rfl, rfl, rfl⟩
theorem keeps_b {e : Ev} {b : Bd} (hs : Body.some e.b = true → Body.some b = true) (h : b.k = e.b.k ∧ b.o = e.b.o ∧ b.age = e.b.age ∧ b.f = e.b.f) (d : Int) : Keeps 1 e { e with b := b, d := d } :=
  ⟨hs, h.1, h.2.1, h.2.2.1, h.2.2.2, rfl, rfl, rfl, rfl, [], by simp, by simp, by simp, Or.inl rfl⟩
theorem keeps_1 (e : Ev) : Keeps 1 e e := keeps_b (b := e.b) id ⟨rfl, rfl, rfl, rfl⟩ e.d
theorem act_next {n at_ : Int} {o : Op3} {e e' : Ev} {k : Int} (h : Rule.act n at_ o e = .next e' k) (h0 : 0 ≤ at_) (h1 : at_ < n) : Keeps 1 e e' ∧ 0 ≤ k ∧ k ≤ n := by
  unfold Rule.act at h
  have bt : ∀ x : Int, Body.btw x 0 n = true → 0 ≤ x ∧ x ≤ n := fun x hx => by simpa [Body.btw] using hx
  have S : ∀ kk v, Keeps 1 e { e with b := Rule.setr e.b kk (Rule.clamp v) } := fun kk v => keeps_b (fun g => setr_some _ _ g (clamp_mem _)) (setr_same _ _ _) e.d
  by_cases q : o.c = 1
  · rw [if_pos q] at h
    by_cases q : Rule.is o.a = true
    · rw [if_pos q] at h
      injection h with e1 e2; subst e1 e2; exact ⟨S _ _, by omega, by omega⟩
    · rw [if_neg q] at h
      cases h
  · rw [if_neg q] at h
    by_cases q : 2 ≤ o.c ∧ o.c ≤ 6
    · rw [if_pos q] at h
      by_cases q : (Rule.is o.a && Rule.is o.b) = true
      · rw [if_pos q] at h
        by_cases q : o.c = 6 ∧ Rule.reg e.b o.b = 0
        · rw [if_pos q] at h
          cases h
        · rw [if_neg q] at h
          injection h with e1 e2; subst e1 e2; exact ⟨S _ _, by omega, by omega⟩
      · rw [if_neg q] at h
        cases h
    · rw [if_neg q] at h
      by_cases q : o.c = 7
      · rw [if_pos q] at h
        by_cases q : Rule.is o.a = true
        · rw [if_pos q] at h
          by_cases q : Body.btw o.b 0 7 = true
          · rw [if_pos q] at h
            injection h with e1 e2; subst e1 e2; exact ⟨S _ _, by omega, by omega⟩
          · rw [if_neg q] at h
            cases h
        · rw [if_neg q] at h
          cases h
      · rw [if_neg q] at h
        by_cases q : o.c = 8
        · rw [if_pos q] at h
          by_cases q : Rule.is o.b = true
          · rw [if_pos q] at h
            by_cases q : Rule.is o.a = true
            · rw [if_pos q] at h
              injection h with e1 e2; subst e1 e2; exact ⟨keeps_b (put_some _ _) (put_same _ _ _) e.d, by omega, by omega⟩
            · rw [if_neg q] at h
              cases h
          · rw [if_neg q] at h
            cases h
        · rw [if_neg q] at h
          by_cases q : o.c = 9
          · rw [if_pos q] at h
            by_cases q : Rule.is o.a = true
            · rw [if_pos q] at h
              by_cases q : Rule.reg e.b o.a = 0
              · rw [if_pos q] at h
                by_cases q : Body.btw o.b 0 n = true
                · rw [if_pos q] at h
                  injection h with e1 e2; subst e1 e2; exact ⟨keeps_1 e, bt _ q⟩
                · rw [if_neg q] at h
                  cases h
              · rw [if_neg q] at h
                injection h with e1 e2; subst e1 e2; exact ⟨keeps_1 e, by omega, by omega⟩
            · rw [if_neg q] at h
              cases h
          · rw [if_neg q] at h
            by_cases q : o.c = 10
            · rw [if_pos q] at h
              by_cases q : Body.btw o.b 0 n = true
              · rw [if_pos q] at h
                injection h with e1 e2; subst e1 e2; exact ⟨keeps_1 e, bt _ q⟩
              · rw [if_neg q] at h
                cases h
            · rw [if_neg q] at h
              by_cases q : o.c = 11
              · rw [if_pos q] at h
                by_cases q : (Rule.is o.a && Rule.is o.b) = true
                · rw [if_pos q] at h
                  by_cases q : 1 ≤ Rule.reg e.b o.b
                  · rw [if_pos q] at h
                    injection h with e1 e2; subst e1 e2; exact ⟨keeps_b (fun g => setr_some _ _ g (clamp_mem _)) (setr_same _ _ _) _, by omega, by omega⟩
                  · rw [if_neg q] at h
                    cases h
                · rw [if_neg q] at h
                  cases h
              · rw [if_neg q] at h
                by_cases q : o.c = 12
                · rw [if_pos q] at h
                  by_cases q : (Rule.is o.a && Rule.is o.b) = true
                  · rw [if_pos q] at h
                    by_cases q : (e.sh.length : Int) < e.room
                    · rw [if_pos q] at h
                      injection h with e1 e2; subst e1 e2
                      refine ⟨⟨id, rfl, rfl, rfl, rfl, rfl, rfl, rfl, rfl, [_], rfl, by simp, fun s hs => ?_, Or.inr ?_⟩, by omega, by omega⟩
                      · rw [List.mem_singleton] at hs; subst hs; exact ⟨rfl, rfl, shot_some _ _⟩
                      · simp only [List.length_append, List.length_singleton]; omega
                    · rw [if_neg q] at h
                      cases h
                  · rw [if_neg q] at h
                    cases h
                · rw [if_neg q] at h
                  by_cases q : o.c = 13
                  · rw [if_pos q] at h
                    injection h with e1 e2; subst e1 e2; exact ⟨keeps_1 e, by omega, by omega⟩
                  · rw [if_neg q] at h
                    cases h
theorem act_fault {n at_ : Int} {o : Op3} {e : Ev} {c : Int} (h : Rule.act n at_ o e = .fault c) : 1 ≤ c ∧ c ≤ 7 := by
  unfold Rule.act at h
  by_cases q : o.c = 1
  · rw [if_pos q] at h
    by_cases q : Rule.is o.a = true
    · rw [if_pos q] at h
      cases h
    · rw [if_neg q] at h
      injection h with e1; subst e1; decide
  · rw [if_neg q] at h
    by_cases q : 2 ≤ o.c ∧ o.c ≤ 6
    · rw [if_pos q] at h
      by_cases q : (Rule.is o.a && Rule.is o.b) = true
      · rw [if_pos q] at h
        by_cases q : o.c = 6 ∧ Rule.reg e.b o.b = 0
        · rw [if_pos q] at h
          injection h with e1; subst e1; decide
        · rw [if_neg q] at h
          cases h
      · rw [if_neg q] at h
        injection h with e1; subst e1; decide
    · rw [if_neg q] at h
      by_cases q : o.c = 7
      · rw [if_pos q] at h
        by_cases q : Rule.is o.a = true
        · rw [if_pos q] at h
          by_cases q : Body.btw o.b 0 7 = true
          · rw [if_pos q] at h
            cases h
          · rw [if_neg q] at h
            injection h with e1; subst e1; decide
        · rw [if_neg q] at h
          injection h with e1; subst e1; decide
      · rw [if_neg q] at h
        by_cases q : o.c = 8
        · rw [if_pos q] at h
          by_cases q : Rule.is o.b = true
          · rw [if_pos q] at h
            by_cases q : Rule.is o.a = true
            · rw [if_pos q] at h
              cases h
            · rw [if_neg q] at h
              injection h with e1; subst e1; decide
          · rw [if_neg q] at h
            injection h with e1; subst e1; decide
        · rw [if_neg q] at h
          by_cases q : o.c = 9
          · rw [if_pos q] at h
            by_cases q : Rule.is o.a = true
            · rw [if_pos q] at h
              by_cases q : Rule.reg e.b o.a = 0
              · rw [if_pos q] at h
                by_cases q : Body.btw o.b 0 n = true
                · rw [if_pos q] at h
                  cases h
                · rw [if_neg q] at h
                  injection h with e1; subst e1; decide
              · rw [if_neg q] at h
                cases h
            · rw [if_neg q] at h
              injection h with e1; subst e1; decide
          · rw [if_neg q] at h
            by_cases q : o.c = 10
            · rw [if_pos q] at h
              by_cases q : Body.btw o.b 0 n = true
              · rw [if_pos q] at h
                cases h
              · rw [if_neg q] at h
                injection h with e1; subst e1; decide
            · rw [if_neg q] at h
              by_cases q : o.c = 11
              · rw [if_pos q] at h
                by_cases q : (Rule.is o.a && Rule.is o.b) = true
                · rw [if_pos q] at h
                  by_cases q : 1 ≤ Rule.reg e.b o.b
                  · rw [if_pos q] at h
                    cases h
                  · rw [if_neg q] at h
                    injection h with e1; subst e1; decide
                · rw [if_neg q] at h
                  injection h with e1; subst e1; decide
              · rw [if_neg q] at h
                by_cases q : o.c = 12
                · rw [if_pos q] at h
                  by_cases q : (Rule.is o.a && Rule.is o.b) = true
                  · rw [if_pos q] at h
                    by_cases q : (e.sh.length : Int) < e.room
                    · rw [if_pos q] at h
                      cases h
                    · rw [if_neg q] at h
                      injection h with e1; subst e1; decide
                  · rw [if_neg q] at h
                    injection h with e1; subst e1; decide
                · rw [if_neg q] at h
                  by_cases q : o.c = 13
                  · rw [if_pos q] at h
                    cases h
                  · rw [if_neg q] at h
                    injection h with e1; subst e1; decide
end Go.Proofs.Ytngbannidbijmaa
namespace Go.Proofs.Ytngbannidbijmaa
open Go.RowKit
set_option linter.unusedVariables false

/-- v reads as these ops, in a block ahead of B -/
def RdO (B : Nat) (w : World) (v : Value) (l : List Op3) : Prop := ∃ a cap, v = .slice a l.length cap ∧ l.length ≤ cap ∧ (l = [] ∨ ∃ b off, a = some ⟨b, off, none⟩ ∧ b < B ∧ b < w.heap.size ∧ ∀ i, i < l.length → w.cell? ⟨b, off + i * 3, none⟩ = some (.int .i64 (l.getD i ⟨0, 0, 0⟩).c) ∧ w.cell? ⟨b, off + i * 3 + 1, none⟩ = some (.int .i64 (l.getD i ⟨0, 0, 0⟩).a) ∧ w.cell? ⟨b, off + i * 3 + 2, none⟩ = some (.int .i64 (l.getD i ⟨0, 0, 0⟩).b))
theorem RdO.only {B : Nat} {w w' : World} {v : Value} {l : List Op3} {S : List Nat} (h : RdO B w v l) (o : Only S w w') (hS : ∀ g ∈ S, B ≤ g) : RdO B w' v l := by
  obtain ⟨a, cap, rfl, h1, h⟩ := h
  refine ⟨a, cap, rfl, h1, ?_⟩
  rcases h with h | ⟨b, off, rfl, hB, hb, hc⟩
  · exact Or.inl h
  · have hn : b ∉ S := fun hm => by have := hS b hm; omega
    exact Or.inr ⟨b, off, rfl, hB, Nat.lt_of_lt_of_le hb o.size, fun i hi => by
      obtain ⟨c1, c2, c3⟩ := hc i hi
      rw [o.cell (p := ⟨b, off + i * 3, none⟩) hb hn, o.cell (p := ⟨b, off + i * 3 + 1, none⟩) hb hn, o.cell (p := ⟨b, off + i * 3 + 2, none⟩) hb hn]
      exact ⟨c1, c2, c3⟩⟩
theorem go_end {l : List Op3} {k : Nat} {a : Int} {e : Ev} (h : ¬ a < l.length) : Rule.go l k a e = .done e := by
  cases k <;> simp only [Rule.go, if_neg h]
theorem go_0 {l : List Op3} {a : Int} {e : Ev} (h : a < l.length) : Rule.go l 0 a e = .fault 5 a := by simp only [Rule.go, if_pos h]
theorem go_f {l : List Op3} {k : Nat} {a c : Int} {e : Ev} (h : a < l.length) (ha : Rule.act l.length a (l.getD a.toNat ⟨0, 0, 0⟩) e = .fault c) : Rule.go l (k + 1) a e = .fault c a := by simp only [Rule.go, if_pos h, ha]
theorem go_n {l : List Op3} {k : Nat} {a a' : Int} {e e' : Ev} (h : a < l.length) (ha : Rule.act l.length a (l.getD a.toNat ⟨0, 0, 0⟩) e = .next e' a') : Rule.go l (k + 1) a e = Rule.go l k a' e' := by simp only [Rule.go, if_pos h, ha]

/-- what a run leaves -/
def RunPost (B p : Nat) (w : World) (m : Mch) (r : Rule.Out) (e : Ending) (w' : World) : Prop :=
  match r with
  | .fault c a => e = broke c a ∧ Only (p :: m.sh.ownBlock.toList) w w'
  | .done e' => e = .returned (.tuple #[]) ∧ ∃ m' : Mch, Mb w' p m' ∧ m'.e e'.sh = e' ∧ SR B w' m'.sh e'.sh ∧ m'.sh.ownBlock ≠ some p ∧ Moved p w w' m.sh m'.sh
theorem runPost_done {B p : Nat} {w w' : World} {m m' : Mch} {r : Rule.Out} {sh' : List Bd} {e : Ending} (hr : r = .done (m'.e sh')) (he : e = .returned (.tuple #[])) (h1 : Mb w' p m') (h2 : SR B w' m'.sh sh') (h3 : m'.sh.ownBlock ≠ some p) (h4 : Moved p w w' m.sh m'.sh) : RunPost B p w m r e w' := by subst hr; exact ⟨he, m', h1, rfl, h2, h3, h4⟩
theorem runPost_fault {B p : Nat} {w w' : World} {m : Mch} {r : Rule.Out} {c a : Int} {e : Ending} (hr : r = .fault c a) (he : e = broke c a) (o : Only (p :: m.sh.ownBlock.toList) w w') : RunPost B p w m r e w' := by subst hr; exact ⟨he, o⟩
/-- a run that is under way -/
structure Way (B p : Nat) (w : World) (m : Mch) (sh : List Bd) (l : List Op3) (k : Nat) (wr : World) (m' : Mch) (sh' : List Bd) : Prop where
  st : St B p wr m' sh' l.length
  ops : m'.ops = m.ops
  rd : RdO B wr m.ops l
  done : m'.done = 64 - k
  moved : Moved p w wr m.sh m'.sh
  go : Rule.go l k m'.at_ (m'.e sh') = Rule.go l 64 m.at_ (m.e sh)
  len : sh'.length + k ≤ 999999
theorem Way.only {B p k : Nat} {w wr wr' : World} {m m' : Mch} {sh sh' : List Bd} {l : List Op3} (h : Way B p w m sh l k wr m' sh') (o : Only [] wr wr') : Way B p w m sh l k wr' m' sh' :=
  ⟨h.st.only o, h.ops, h.rd.only o (by simp), h.done, h.moved.more o (by simp), h.go, h.len⟩
/-- nothing but what a machine turns has turned, its list of ops and its place not -/
structure Turn (p : Nat) (S : List Nat) (x y : World) : Prop where
  only : Only (p :: S) x y
  c0 : y.cell? ⟨p, 0, none⟩ = x.cell? ⟨p, 0, none⟩
  c19 : y.cell? ⟨p, 19, none⟩ = x.cell? ⟨p, 19, none⟩
theorem Turn.refl (p : Nat) (S : List Nat) (x : World) : Turn p S x x := ⟨Only.refl _ _, rfl, rfl⟩
theorem Turn.trans {p : Nat} {S : List Nat} {x y z : World} (h : Turn p S x y) (k : Turn p S y z) : Turn p S x z := ⟨h.only.trans k.only, k.c0.trans h.c0, k.c19.trans h.c19⟩

set_option maxRecDepth 100000 in
set_option maxHeartbeats 2000000 in
theorem run_any {B p : Nat} {w : World} {m : Mch} {sh : List Bd} {l : List Op3} (h : St B p w m sh l.length) (hrd : RdO B w m.ops l) (h0 : m.done = 0) (hl : sh.length ≤ 900000) : Calls Try.prog 87 #[.pointer (some ⟨p, 0, none⟩)] w (RunPost B p w m (Rule.go l 64 m.at_ (m.e sh))) := by
  have H0 : Hid (Way B p w m sh l 64 w m sh) := ⟨h, rfl, hrd, by rw [h0]; rfl, Moved.refl _ _ _, rfl, by omega⟩
  have hn := h.few
  clear h hrd h0 hl
  obtain ⟨RR, hRR⟩ : ∃ RR, Rule.go l 64 m.at_ (m.e sh) = RR := ⟨_, rfl⟩
  have HR : Hid _ := hRR
  rw [hRR]
  clear hRR
  obtain ⟨n, hN⟩ : ∃ n, l.length = n := ⟨_, rfl⟩
  have HN : Hid _ := hN
  rw [hN] at hn
  clear hN
  go_enter Try.func87, Try.ntmps87
  go_wp2_with fail
  go_loopg [] 65 (fun gk wr => ∃ (k : Nat) (m' : Mch) (sh' : List Bd), k ≤ 64 ∧ k + 1 ≤ gk ∧ Hid (Way B p w m sh l k wr m' sh'))
  case atStart => exact ⟨64, m, sh, by omega, by omega, H0.out⟩
  case round =>
    obtain ⟨k, m', sh', hk, hg, HW⟩ := hrel
    clear H0
    obtain ⟨oa, ocap, hops⟩ := HW.out.st.ops
    rw [HN.out] at hops
    have OPS : Hid _ := hops
    clear hops
    have at0 := HW.out.st.at0
    have HV : Hid (∀ y, Only [] wr.drew y → Way B p w m sh l k y m' sh') := fun y hy => HW.out.only ((only_drew wr).trans hy)
    go_wp2_with fail
    refine wp_region_free 10 (Only []) (Only.refl _) Only.trans [(0, .pointer (some ⟨p, 0, none⟩))] (by intro p hp; simp only [List.mem_cons, List.not_mem_nil, or_false] at hp; rcases hp with rfl; rfl) (by kernel_rfl) (by kernel_rfl) (by decide) (by kernel_rfl) (by kernel_rfl) ?_
    simp only [List.take_succ_cons, List.take_zero, List.drop_succ_cons, List.drop_zero]
    repeat (
      apply rf_val
      · first | rfl | exact ⟨by kernel_rfl, rfl⟩
      · intro z y hT hf
        have c0 := (HV.out y hT).st.mac.ops
        have c19 := (HV.out y hT).st.mac.at_
        rw [OPS.out] at c0
        simp at hf
        go_simp
        try rfl)
    intro w1 hy
    simp only [FinA, Sp.R, forall_eq]
    simp only [Act.put, List.setIfInBounds_toArray, List.set_cons_succ, List.set_cons_zero]
    have H1 : Hid (Way B p w m sh l k w1 m' sh') := HV.out w1 hy
    clear hy HV HW
    by_cases hlt : m'.at_ < n
    rotate_left
    · go_wp2_with fail
      go_end0
      have hd : RR = .done (m'.e sh') := by rw [← HR.out, ← H1.out.go]; exact go_end (by rw [HN.out]; omega)
      exact runPost_done hd rfl H1.out.st.mac H1.out.st.row H1.out.st.own H1.out.moved
    obtain ⟨d, hd⟩ : ∃ d : Int, m'.done = d := ⟨_, rfl⟩
    have hdk := H1.out.done
    rw [hd] at hdk
    have c20 := H1.out.st.mac.done
    rw [hd] at c20
    have lt1 : m'.at_ < (l.length : Int) := by rw [HN.out]; exact hlt
    have LT : Hid _ := lt1
    clear lt1
    cases k with
    | zero =>
      have hdd : d = 64 := by omega
      clear hdk
      subst hdd
      have hR : RR = .fault 5 m'.at_ := by rw [← HR.out, ← H1.out.go]; exact go_0 LT.out
      have HRR : Hid _ := hR
      clear hR
      go_wp2_with fail
      refine (mmust_no H1.out.st.mac _).mono ?_
      rintro e w' ⟨rfl, rfl⟩
      exact ⟨rfl, runPost_fault HRR.out rfl H1.out.moved.only⟩
    | succ k =>
      have hdd : d < 64 := by omega
      have HK : Hid (d = 64 - ((k : Int) + 1)) := (by omega : d = 64 - ((k : Int) + 1))
      clear hdk
      have hd0 : -1 ≤ d := by have := HK.out; omega
      go_wp2_with fail
      refine (mmust_yes H1.out.st.mac _).mono ?_
      rintro e w' ⟨rfl, rfl⟩
      go_wp2_with fail
      obtain ⟨j, hj⟩ : ∃ j : Nat, m'.at_ = j := ⟨m'.at_.toNat, by omega⟩
      have hjn : j < n := by omega
      have z0 : (0 : Int) ≤ (j : Int) := by omega
      have z1 : (j : Int) < (n : Int) := by omega
      obtain ⟨o, ho⟩ : ∃ o, l.getD j ⟨0, 0, 0⟩ = o := ⟨_, rfl⟩
      obtain ⟨bo, off, hoa, hbo⟩ : ∃ bo off, oa = some ⟨bo, off, none⟩ ∧ bo < B ∧ bo < w'.heap.size ∧ w'.cell? ⟨bo, off + j * 3, none⟩ = some (.int .i64 o.c) ∧ w'.cell? ⟨bo, off + j * 3 + 1, none⟩ = some (.int .i64 o.a) ∧ w'.cell? ⟨bo, off + j * 3 + 2, none⟩ = some (.int .i64 o.b) := by
        obtain ⟨ra, rcap, he, _, hrd⟩ := H1.out.rd
        rw [← H1.out.ops, OPS.out] at he
        injection he with he1 he2 he3
        subst he1
        rcases hrd with h | ⟨b, off, h1, h2, h3, h4⟩
        · rw [h] at he2; simp at he2; omega
        · have := h4 j (by omega)
          rw [ho] at this
          exact ⟨b, off, h1, h2, h3, this⟩
      subst hoa
      have hact0 : Rule.act l.length m'.at_ (l.getD m'.at_.toNat ⟨0, 0, 0⟩) (m'.e sh') = Rule.act l.length m'.at_ o (m'.e sh') := by rw [hj, Int.toNat_natCast, ho]
      have FA : Hid (∀ y, Turn p m'.sh.ownBlock.toList w'.drew y → y.cell? ⟨p, 0, none⟩ = some (.slice (some ⟨bo, off, none⟩) n ocap) ∧ y.cell? ⟨p, 19, none⟩ = some (.int .i64 j) ∧ y.cell? ⟨bo, off + j * 3, none⟩ = some (.int .i64 o.c) ∧ y.cell? ⟨bo, off + j * 3 + 1, none⟩ = some (.int .i64 o.a) ∧ y.cell? ⟨bo, off + j * 3 + 2, none⟩ = some (.int .i64 o.b)) := by
        show ∀ y, _ → _
        intro y hT
        have hn : bo ∉ p :: m'.sh.ownBlock.toList := fun hm => by
          rcases List.mem_cons.1 hm with e | e
          · have := H1.out.st.low; omega
          · have := (H1.out.st.row.lt bo (by simpa [Option.mem_toList] using e)).1; omega
        have oT := hT.only
        refine ⟨?_, ?_, ?_, ?_, ?_⟩
        · rw [hT.c0, ← OPS.out]; exact H1.out.st.mac.ops
        · rw [hT.c19, ← hj]; exact H1.out.st.mac.at_
        · rw [oT.cell (p := ⟨bo, off + j * 3, none⟩) hbo.2.1 hn]; exact hbo.2.2.1
        · rw [oT.cell (p := ⟨bo, off + j * 3 + 1, none⟩) hbo.2.1 hn]; exact hbo.2.2.2.1
        · rw [oT.cell (p := ⟨bo, off + j * 3 + 2, none⟩) hbo.2.1 hn]; exact hbo.2.2.2.2
      have AC : Hid _ := hact0
      have HJ : Hid _ := hj
      clear hbo ho hact0 hj hlt at0 c20 hd
      cases hact : Rule.act l.length m'.at_ o (m'.e sh') with
      | fault c =>
        have hR : RR = .fault c m'.at_ := by rw [← HR.out, ← H1.out.go]; exact go_f LT.out (AC.out.trans hact)
        have HRR : Hid _ := hR
        have ACT : Hid _ := hact
        clear hR hact
        refine wp_region_fate (fun chain y => chain = [{ v := thrownV c m'.at_, recovered := false }] ∧ Only [] w' y) (by rintro chain a' y hd ⟨rfl, ho⟩; exact ⟨hd, runPost_fault HRR.out rfl (H1.out.moved.more ho (by simp)).only⟩) 16 (Only []) (Only.refl _) Only.trans [(0, .pointer (some ⟨p, 0, none⟩))] (by intro p hp; simp only [List.mem_cons, List.not_mem_nil, or_false] at hp; rcases hp with rfl; rfl) (by kernel_rfl) (by kernel_rfl) (by decide) (by kernel_rfl) (by kernel_rfl) ?_
        simp only [List.take_succ_cons, List.take_zero, List.drop_succ_cons, List.drop_zero]
        have TN : Hid (∀ y, Only [] w'.drew y → Turn p m'.sh.ownBlock.toList w'.drew y) := fun y hy => ⟨hy.weaken (by simp), hy.cell H1.out.st.mac.lt (by simp), hy.cell H1.out.st.mac.lt (by simp)⟩
        iterate 12 (
          apply rd_val
          · first | rfl | exact ⟨by kernel_rfl, rfl⟩
          · intro z y hT hf
            obtain ⟨c0, c19, o0, o1, o2⟩ := FA.out y (TN.out y hT)
            simp at hf
            go_simp
            try rfl)
        refine rd_die (by first | rfl | exact ⟨by kernel_rfl, rfl⟩) (fun z y hT hf => ?_) ?_
        · simp at hf
          go_simp
          have hW : Way B p w m sh l (k + 1) y m' sh' := H1.out.only ((only_drew w').trans hT)
          refine (do_any hW.st o).mono ?_
          rintro e y2 hd
          rw [ACT.out] at hd
          obtain ⟨rfl, o2⟩ := hd
          exact ⟨_, rfl, rfl, ((only_drew w').trans hT).trans o2⟩
        iterate 3 (refine rd_not (by first | rfl | exact ⟨by kernel_rfl, rfl⟩) (fun z y hT hf => (by simp at hf)) ?_)
        intro w2 hy
        simp only [FinA, Sp.R, forall_eq]
        intro v hv
        exact hv.elim
      | next e' a' =>
        have hR : RR = Rule.go l k a' e' := by rw [← HR.out, ← H1.out.go]; exact go_n LT.out (AC.out.trans hact)
        have HRR : Hid _ := hR
        have ACT : Hid _ := hact
        have KP : Hid _ := act_next hact H1.out.st.at0 LT.out
        clear hR hact
        refine wp_region_tail (fun _ _ => False) (fun _ _ _ _ h => h.elim) 13 (Turn p m'.sh.ownBlock.toList) (Turn.refl _ _) Turn.trans [(0, .pointer (some ⟨p, 0, none⟩))] (by intro p hp; simp only [List.mem_cons, List.not_mem_nil, or_false] at hp; rcases hp with rfl; rfl) (by kernel_rfl) (by kernel_rfl) (by decide) (by kernel_rfl) (by kernel_rfl) (fun y => Only [] w' y) (only_drew w') ?_
        simp only [List.take_succ_cons, List.take_zero, List.drop_succ_cons, List.drop_zero]
        iterate 12 (
          apply rb_val
          · first | rfl | exact ⟨by kernel_rfl, rfl⟩
          · intro z y hT hf
            obtain ⟨c0, c19, o0, o1, o2⟩ := FA.out y hT
            simp at hf
            go_simp
            try rfl)
        refine rb_call (fun _ v => v = .int .i64 a') (fun y => ∃ v, Mb y p (m'.with e' v) ∧ SR B y v e'.sh ∧ v.ownBlock ≠ some p ∧ Moved p w' y m'.sh v) (by first | rfl | exact ⟨by kernel_rfl, rfl⟩) (by kernel_rfl) (fun _ _ _ _ h => h) (fun z y hJ hT hf => ?_) ?_
        · simp at hf
          go_simp
          have hW : Way B p w m sh l (k + 1) y m' sh' := H1.out.only hJ
          refine (do_any hW.st o).mono ?_
          rintro e y2 hd
          rw [ACT.out] at hd
          obtain ⟨rfl, v, h1, h2, h3, h4⟩ := hd
          exact ⟨_, rfl, rfl, ⟨v, h1, h2, h3, (Moved.of_only (hJ.weaken (by simp))).trans h4⟩, h4.only, h1.ops.trans hW.st.mac.ops.symm, h1.at_.trans hW.st.mac.at_.symm⟩
        intro w2 hJ hy
        simp only [FinA, Sp.R, forall_eq]
        intro _
        simp only [Act.put, List.setIfInBounds_toArray, List.set_cons_succ, List.set_cons_zero]
        obtain ⟨v, h1, h2, h3, h4⟩ := hJ
        have H2 : Hid (Mb w2 p (m'.with e' v) ∧ SR B w2 v e'.sh ∧ v.ownBlock ≠ some p ∧ Moved p w' w2 m'.sh v) := ⟨h1, h2, h3, h4⟩
        clear h1 h2 h3 h4 hy
        have fz := H2.out.1.frozen
        have c19 := H2.out.1.at_
        have c20 := H2.out.1.done
        have wd : IntKind.i64.wrap ((m'.with e' v).done + 1) = (m'.with e' v).done + 1 := IntWalk.i64_in _ (by have := HK.out; have e : (m'.with e' v).done = m'.done := rfl; have := H1.out.done; rw [e]; omega)
        go_wp2_with fail
        go_roundg (k + 1)
        case measure => omega
        case rel =>
          refine ⟨k, { m'.with e' v with at_ := a', done := (m'.with e' v).done + 1 }, e'.sh, by omega, by omega, ?_⟩
          obtain ⟨h1, h2, h3, h4⟩ := H2.out
          obtain ⟨K, a0, a1⟩ := KP.out
          obtain ⟨nl, en, nn, _⟩ := K.sh
          have hlen : e'.sh.length ≤ sh'.length + 1 := by rw [en]; simp only [List.length_append]; have : (m'.e sh').sh = sh' := rfl; rw [this]; omega
          have hl0 := H1.out.len
          have oS : Only [p] w2 ((w2.setCell ⟨p, 19, none⟩ (.int .i64 a')).setCell ⟨p, 20, none⟩ (.int .i64 ((m'.with e' v).done + 1))) := ((Only.refl _ _).setCell (by simp) _).setCell (by simp) _
          have hS : ∀ g, v.ownBlock = some g → g ∉ [p] := fun g hg hm => h3 (by rw [← (by simpa using hm : g = p)]; exact hg)
          have hdn : (m'.with e' v).done = m'.done := rfl
          refine ⟨⟨(h1.setat a').setdone _, h2.only oS hS, h3, H1.out.st.low, by omega, K.ok H1.out.st.ok, H1.out.st.ops, H1.out.st.few, a0, a1⟩, H1.out.ops, (H1.out.rd.only h4.only ?_).only oS ?_, ?_, (H1.out.moved.trans h4).trans (Moved.of_only oS), HRR.out.symm.trans HR.out.symm, by omega⟩
          · intro g hg
            rcases List.mem_cons.1 hg with e | e
            · rw [e]; exact H1.out.st.low
            · exact (H1.out.st.row.lt g (by simpa [Option.mem_toList] using e)).1
          · intro g hg
            rw [(by simpa using hg : g = p)]; exact H1.out.st.low
          · show (m'.with e' v).done + 1 = 64 - (k : Int)
            rw [hdn, H1.out.done]; omega
end Go.Proofs.Ytngbannidbijmaa
