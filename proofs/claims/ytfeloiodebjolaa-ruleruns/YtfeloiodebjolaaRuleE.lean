/- Package rule: one op, whatever it is. -/
import Derived.Test.YtfeloiodebjolaaM12
namespace Go.Proofs.Ytfeloiodebjolaa
open Go.RowKit
set_option linter.unusedVariables false
theorem reg_rng {b : Bd} (h : Body.some b = true) (k : Int) : -1000000 ≤ Rule.reg b k ∧ Rule.reg b k ≤ 1000000 := by
  have K := (Body.some_iff b).1 h
  unfold Rule.reg
  split
  · exact K.m0
  · split
    · exact K.m1
    · split
      · exact K.m2
      · exact K.m3
theorem do_any {B p n : Nat} {w : World} {m : Mch} {sh : List Bd} (h : St B p w m sh n) (o : Op3) : Calls Try.prog 36 #[.pointer (some ⟨p, 0, none⟩), o.v] w (DoPost B p w m (Rule.act n m.at_ o (m.e sh))) := by
  obtain ⟨c, a, b⟩ := o
  have er : (m.e sh).b = m.b := rfl
  have es : (m.e sh).sh = sh := rfl
  have ero : (m.e sh).room = m.room := rfl
  have ed : (m.e sh).d = m.d := rfl
  have rr := fun k => reg_rng h.ok k
  by_cases h1 : c = 1
  · subst h1
    cases ha : Rule.is a
    · exact do_1n h a b ha (by simp [Rule.act, ha])
    · obtain ⟨i, rfl, hi⟩ := is_nat ha
      exact do_1y h i hi b (by simp [Rule.act, ha, er])
  by_cases h2 : 2 ≤ c ∧ c ≤ 6
  · cases ha : Rule.is a
    · have hr : Rule.act n m.at_ ⟨c, a, b⟩ (m.e sh) = .fault 2 := by simp [Rule.act, h1, h2, ha]
      have h5 : c = 2 ∨ c = 3 ∨ c = 4 ∨ c = 5 ∨ c = 6 := by omega
      rcases h5 with rfl | rfl | rfl | rfl | rfl
      · exact do_2a h a b ha hr
      · exact do_3a h a b ha hr
      · exact do_4a h a b ha hr
      · exact do_5a h a b ha hr
      · exact do_6a h a b ha hr
    obtain ⟨i, rfl, hi⟩ := is_nat ha
    cases hb : Rule.is b
    · have hr : Rule.act n m.at_ ⟨c, i, b⟩ (m.e sh) = .fault 2 := by simp [Rule.act, h1, h2, ha, hb]
      have h5 : c = 2 ∨ c = 3 ∨ c = 4 ∨ c = 5 ∨ c = 6 := by omega
      rcases h5 with rfl | rfl | rfl | rfl | rfl
      · exact do_2b h i b hi hb hr
      · exact do_3b h i b hi hb hr
      · exact do_4b h i b hi hb hr
      · exact do_5b h i b hi hb hr
      · exact do_6b h i b hi hb hr
    obtain ⟨j, rfl, hj⟩ := is_nat hb
    by_cases hz : c = 6 ∧ Rule.reg m.b j = 0
    · obtain ⟨rfl, hz⟩ := hz
      exact do_6z h i j hi hj hz (by simp [Rule.act, ha, hb, er, hz])
    · have hr : Rule.act n m.at_ ⟨c, i, j⟩ (m.e sh) = .next { m.e sh with b := Rule.setr m.b i (Rule.clamp (Rule.reckon c (Rule.reg m.b i) (Rule.reg m.b j))) } (m.at_ + 1) := by
        simp only [Rule.act, if_neg h1, if_pos h2, ha, hb, er, Bool.and_self, if_true, if_neg hz]
      have h5 : c = 2 ∨ c = 3 ∨ c = 4 ∨ c = 5 ∨ c = 6 := by omega
      rcases h5 with rfl | rfl | rfl | rfl | rfl
      · exact do_2y h i j hi hj (rr i) (rr j) hr
      · exact do_3y h i j hi hj (rr i) (rr j) hr
      · exact do_4y h i j hi hj (rr i) (rr j) hr
      · exact do_5y h i j hi hj (rr i) (rr j) hr
      · exact do_6y h i j hi hj (fun e => hz ⟨rfl, e⟩) (rr i) (rr j) hr
  by_cases h7 : c = 7
  · subst h7
    cases ha : Rule.is a
    · exact do_7a h a b ha (by simp [Rule.act, ha])
    · obtain ⟨i, rfl, hi⟩ := is_nat ha
      cases hb : Body.btw b 0 7
      · exact do_7b h i hi b hb (by simp [Rule.act, ha, hb])
      · exact do_7y h i hi b hb (by simp [Rule.act, ha, hb, er])
  by_cases h8 : c = 8
  · subst h8
    cases hb : Rule.is b
    · exact do_8b h a b hb (by simp [Rule.act, hb])
    · obtain ⟨j, rfl, hj⟩ := is_nat hb
      cases ha : Rule.is a
      · exact do_8f h a j hj ha (by simp [Rule.act, ha, hb])
      · exact do_8y h a j hj ha (by simp [Rule.act, ha, hb, er])
  by_cases h9 : c = 9
  · subst h9
    cases ha : Rule.is a
    · exact do_9a h a b ha (by simp [Rule.act, ha])
    · obtain ⟨i, rfl, hi⟩ := is_nat ha
      by_cases hz : Rule.reg m.b i = 0
      · cases hb : Body.btw b 0 n
        · exact do_9f h i hi b hz hb (by simp [Rule.act, ha, hb, er, hz])
        · exact do_9y h i hi b hz hb (by simp [Rule.act, ha, hb, er, hz])
      · exact do_9n h i hi b hz (by simp [Rule.act, ha, er, hz])
  by_cases h10 : c = 10
  · subst h10
    cases hb : Body.btw b 0 n
    · exact do_10f h a b hb (by simp [Rule.act, hb])
    · exact do_10y h a b hb (by simp [Rule.act, hb])
  by_cases h11 : c = 11
  · subst h11
    cases ha : Rule.is a
    · exact do_11a h a b ha (by simp [Rule.act, ha])
    obtain ⟨i, rfl, hi⟩ := is_nat ha
    cases hb : Rule.is b
    · exact do_11b h i b hi hb (by simp [Rule.act, ha, hb])
    obtain ⟨j, rfl, hj⟩ := is_nat hb
    by_cases hz : 1 ≤ Rule.reg m.b j
    · exact do_11y h i j hi hj hz (by simp [Rule.act, ha, hb, er, ed, hz])
    · exact do_11f h i j hi hj hz (by simp only [Rule.act, ha, hb, er, if_neg hz]; simp)
  by_cases h12 : c = 12
  · subst h12
    cases ha : Rule.is a
    · exact do_12a h a b ha (by simp [Rule.act, ha])
    obtain ⟨i, rfl, hi⟩ := is_nat ha
    cases hb : Rule.is b
    · exact do_12b h i b hi hb (by simp [Rule.act, ha, hb])
    obtain ⟨j, rfl, hj⟩ := is_nat hb
    by_cases hz : (sh.length : Int) < m.room
    · exact do_12y h i j hi hj hz (by simp [Rule.act, ha, hb, er, es, ero, hz])
    · exact do_12f h i j hi hj hz (by simp only [Rule.act, ha, hb, er, es, ero, if_neg hz]; simp)
  by_cases h13 : c = 13
  · subst h13
    exact do_13 h a b (by simp [Rule.act])
  · exact do_x h c a b (by omega) (by simp [Rule.act, h1, h2, h7, h8, h9, h10, h11, h12, h13])

/-- what an op never turns, and what stays right -/
structure Keeps (n : Int) (e e' : Ev) : Prop where
  ok : Body.some e.b = true → Body.some e'.b = true
  k : e'.b.k = e.b.k
  o : e'.b.o = e.b.o
  age : e'.b.age = e.b.age
  f : e'.b.f = e.b.f
  t : e'.t = e.t
  ix : e'.ix = e.ix
  iy : e'.iy = e.iy
  room : e'.room = e.room
  sh : ∃ l, e'.sh = e.sh ++ l ∧ l.length ≤ n ∧ (∀ s ∈ l, s.k = 2 ∧ s.o = e.b.o ∧ (Body.some e.b = true → Body.some s = true)) ∧ (l = [] ∨ (e'.sh.length : Int) ≤ e.room)
theorem Keeps.refl (e : Ev) : Keeps 0 e e := ⟨id, rfl, rfl, rfl, rfl, rfl, rfl, rfl, rfl, [], by simp, by simp, by simp, Or.inl rfl⟩
theorem Keeps.trans {a b : Int} {x y z : Ev} (h : Keeps a x y) (k : Keeps b y z) : Keeps (a + b) x z := by
  obtain ⟨l1, e1, n1, p1, q1⟩ := h.sh
  obtain ⟨l2, e2, n2, p2, q2⟩ := k.sh
  refine ⟨fun g => k.ok (h.ok g), k.k.trans h.k, k.o.trans h.o, k.age.trans h.age, k.f.trans h.f, k.t.trans h.t, k.ix.trans h.ix, k.iy.trans h.iy, k.room.trans h.room, l1 ++ l2, by rw [e2, e1, List.append_assoc], by rw [List.length_append]; omega, fun s hs => ?_, ?_⟩
  · rcases List.mem_append.1 hs with g | g
    · exact p1 s g
    · obtain ⟨g1, g2, g3⟩ := p2 s g
      exact ⟨g1, g2.trans h.o, fun g4 => g3 (h.ok g4)⟩
  · rcases q2 with g | g
    · subst g
      rcases q1 with g2 | g2
      · left; simp [g2]
      · right; rw [e2]; simpa using g2
    · right; rw [← h.room]; exact g
theorem clamp_mem (n : Int) : -1000000 ≤ Rule.clamp n ∧ Rule.clamp n ≤ 1000000 := clamp_rng n
theorem setr_some {b : Bd} (k v : Int) (h : Body.some b = true) (hv : -1000000 ≤ v ∧ v ≤ 1000000) : Body.some (Rule.setr b k v) = true := by
  have K := (Body.some_iff b).1 h
  rw [Body.some_iff]
  unfold Rule.setr
  split
  · exact ⟨K.k, K.o, K.x, K.y, K.vx, K.vy, K.age, K.f, hv, K.m1, K.m2, K.m3⟩
  · split
    · exact ⟨K.k, K.o, K.x, K.y, K.vx, K.vy, K.age, K.f, K.m0, hv, K.m2, K.m3⟩
    · split
      · exact ⟨K.k, K.o, K.x, K.y, K.vx, K.vy, K.age, K.f, K.m0, K.m1, hv, K.m3⟩
      · exact ⟨K.k, K.o, K.x, K.y, K.vx, K.vy, K.age, K.f, K.m0, K.m1, K.m2, hv⟩
theorem put_some {b : Bd} (k v : Int) (h : Body.some b = true) : Body.some (Rule.put b k v) = true := by
  have K := (Body.some_iff b).1 h
  have w1 := within_rng v 0 4095 (by omega)
  have w2 := within_rng v (-64) 64 (by omega)
  rw [Body.some_iff]
  unfold Rule.put
  split
  · exact ⟨K.k, K.o, w1, K.y, K.vx, K.vy, K.age, K.f, K.m0, K.m1, K.m2, K.m3⟩
  · split
    · exact ⟨K.k, K.o, K.x, w1, K.vx, K.vy, K.age, K.f, K.m0, K.m1, K.m2, K.m3⟩
    · split
      · exact ⟨K.k, K.o, K.x, K.y, w2, K.vy, K.age, K.f, K.m0, K.m1, K.m2, K.m3⟩
      · exact ⟨K.k, K.o, K.x, K.y, K.vx, w2, K.age, K.f, K.m0, K.m1, K.m2, K.m3⟩
theorem shot_some {b : Bd} (x y : Int) (h : Body.some b = true) : Body.some (Body.shot b x y) = true := by
  have K := (Body.some_iff b).1 h
  rw [Body.some_iff]
  exact ⟨Or.inr rfl, K.o, K.x, K.y, within_rng _ _ _ (by omega), within_rng _ _ _ (by omega), by simp [Body.shot, Body.zero], by simp [Body.shot, Body.zero], by simp [Body.shot, Body.zero], by simp [Body.shot, Body.zero], by simp [Body.shot, Body.zero], by simp [Body.shot, Body.zero]⟩
theorem setr_same (b : Bd) (k v : Int) : (Rule.setr b k v).k = b.k ∧ (Rule.setr b k v).o = b.o ∧ (Rule.setr b k v).age = b.age ∧ (Rule.setr b k v).f = b.f := by
  unfold Rule.setr; split
  · exact ⟨rfl, rfl, rfl, rfl⟩
  · split
    · exact ⟨rfl, rfl, rfl, rfl⟩
    · split <;> exact ⟨rfl, rfl, rfl, rfl⟩
theorem put_same (b : Bd) (k v : Int) : (Rule.put b k v).k = b.k ∧ (Rule.put b k v).o = b.o ∧ (Rule.put b k v).age = b.age ∧ (Rule.put b k v).f = b.f := by
  unfold Rule.put; split
  · exact ⟨rfl, rfl, rfl, rfl⟩
  · split
    · exact ⟨rfl, rfl, rfl, rfl⟩
    · split <;> exact ⟨rfl, rfl, rfl, rfl⟩
theorem keeps_b {e : Ev} {b : Bd} (hs : Body.some e.b = true → Body.some b = true) (h : b.k = e.b.k ∧ b.o = e.b.o ∧ b.age = e.b.age ∧ b.f = e.b.f) (d : Int) : Keeps 1 e { e with b := b, d := d } :=
  ⟨hs, h.1, h.2.1, h.2.2.1, h.2.2.2, rfl, rfl, rfl, rfl, [], by simp, by simp, by simp, Or.inl rfl⟩
theorem keeps_1 (e : Ev) : Keeps 1 e e := keeps_b (b := e.b) id ⟨rfl, rfl, rfl, rfl⟩ e.d
theorem act_next {n at_ : Int} {o : Op3} {e e' : Ev} {k : Int} (h : Rule.act n at_ o e = .next e' k) (h0 : 0 ≤ at_) (h1 : at_ < n) : Keeps 1 e e' ∧ 0 ≤ k ∧ k ≤ n := by
  unfold Rule.act at h
  have bt : ∀ x : Int, Body.btw x 0 n = true → 0 ≤ x ∧ x ≤ n := fun x hx => by simpa [Body.btw] using hx
  have S : ∀ kk v, Keeps 1 e { e with b := Rule.setr e.b kk (Rule.clamp v) } := fun kk v => keeps_b (fun g => setr_some _ _ g (clamp_mem _)) (setr_same _ _ _) e.d
  by_cases q : o.c = 1
  · rw [if_pos q] at h
    by_cases q : Rule.is o.a = true
    · rw [if_pos q] at h
      injection h with e1 e2; subst e1 e2; exact ⟨S _ _, by omega, by omega⟩
    · rw [if_neg q] at h
      cases h
  · rw [if_neg q] at h
    by_cases q : 2 ≤ o.c ∧ o.c ≤ 6
    · rw [if_pos q] at h
      by_cases q : (Rule.is o.a && Rule.is o.b) = true
      · rw [if_pos q] at h
        by_cases q : o.c = 6 ∧ Rule.reg e.b o.b = 0
        · rw [if_pos q] at h
          cases h
        · rw [if_neg q] at h
          injection h with e1 e2; subst e1 e2; exact ⟨S _ _, by omega, by omega⟩
      · rw [if_neg q] at h
        cases h
    · rw [if_neg q] at h
      by_cases q : o.c = 7
      · rw [if_pos q] at h
        by_cases q : Rule.is o.a = true
        · rw [if_pos q] at h
          by_cases q : Body.btw o.b 0 7 = true
          · rw [if_pos q] at h
            injection h with e1 e2; subst e1 e2; exact ⟨S _ _, by omega, by omega⟩
          · rw [if_neg q] at h
            cases h
        · rw [if_neg q] at h
          cases h
      · rw [if_neg q] at h
        by_cases q : o.c = 8
        · rw [if_pos q] at h
          by_cases q : Rule.is o.b = true
          · rw [if_pos q] at h
            by_cases q : Rule.is o.a = true
            · rw [if_pos q] at h
              injection h with e1 e2; subst e1 e2; exact ⟨keeps_b (put_some _ _) (put_same _ _ _) e.d, by omega, by omega⟩
            · rw [if_neg q] at h
              cases h
          · rw [if_neg q] at h
            cases h
        · rw [if_neg q] at h
          by_cases q : o.c = 9
          · rw [if_pos q] at h
            by_cases q : Rule.is o.a = true
            · rw [if_pos q] at h
              by_cases q : Rule.reg e.b o.a = 0
              · rw [if_pos q] at h
                by_cases q : Body.btw o.b 0 n = true
                · rw [if_pos q] at h
                  injection h with e1 e2; subst e1 e2; exact ⟨keeps_1 e, bt _ q⟩
                · rw [if_neg q] at h
                  cases h
              · rw [if_neg q] at h
                injection h with e1 e2; subst e1 e2; exact ⟨keeps_1 e, by omega, by omega⟩
            · rw [if_neg q] at h
              cases h
          · rw [if_neg q] at h
            by_cases q : o.c = 10
            · rw [if_pos q] at h
              by_cases q : Body.btw o.b 0 n = true
              · rw [if_pos q] at h
                injection h with e1 e2; subst e1 e2; exact ⟨keeps_1 e, bt _ q⟩
              · rw [if_neg q] at h
                cases h
            · rw [if_neg q] at h
              by_cases q : o.c = 11
              · rw [if_pos q] at h
                by_cases q : (Rule.is o.a && Rule.is o.b) = true
                · rw [if_pos q] at h
                  by_cases q : 1 ≤ Rule.reg e.b o.b
                  · rw [if_pos q] at h
                    injection h with e1 e2; subst e1 e2; exact ⟨keeps_b (fun g => setr_some _ _ g (clamp_mem _)) (setr_same _ _ _) _, by omega, by omega⟩
                  · rw [if_neg q] at h
                    cases h
                · rw [if_neg q] at h
                  cases h
              · rw [if_neg q] at h
                by_cases q : o.c = 12
                · rw [if_pos q] at h
                  by_cases q : (Rule.is o.a && Rule.is o.b) = true
                  · rw [if_pos q] at h
                    by_cases q : (e.sh.length : Int) < e.room
                    · rw [if_pos q] at h
                      injection h with e1 e2; subst e1 e2
                      refine ⟨⟨id, rfl, rfl, rfl, rfl, rfl, rfl, rfl, rfl, [_], rfl, by simp, fun s hs => ?_, Or.inr ?_⟩, by omega, by omega⟩
                      · rw [List.mem_singleton] at hs; subst hs; exact ⟨rfl, rfl, shot_some _ _⟩
                      · simp only [List.length_append, List.length_singleton]; omega
                    · rw [if_neg q] at h
                      cases h
                  · rw [if_neg q] at h
                    cases h
                · rw [if_neg q] at h
                  by_cases q : o.c = 13
                  · rw [if_pos q] at h
                    injection h with e1 e2; subst e1 e2; exact ⟨keeps_1 e, by omega, by omega⟩
                  · rw [if_neg q] at h
                    cases h
theorem act_fault {n at_ : Int} {o : Op3} {e : Ev} {c : Int} (h : Rule.act n at_ o e = .fault c) : 1 ≤ c ∧ c ≤ 7 := by
  unfold Rule.act at h
  by_cases q : o.c = 1
  · rw [if_pos q] at h
    by_cases q : Rule.is o.a = true
    · rw [if_pos q] at h
      cases h
    · rw [if_neg q] at h
      injection h with e1; subst e1; decide
  · rw [if_neg q] at h
    by_cases q : 2 ≤ o.c ∧ o.c ≤ 6
    · rw [if_pos q] at h
      by_cases q : (Rule.is o.a && Rule.is o.b) = true
      · rw [if_pos q] at h
        by_cases q : o.c = 6 ∧ Rule.reg e.b o.b = 0
        · rw [if_pos q] at h
          injection h with e1; subst e1; decide
        · rw [if_neg q] at h
          cases h
      · rw [if_neg q] at h
        injection h with e1; subst e1; decide
    · rw [if_neg q] at h
      by_cases q : o.c = 7
      · rw [if_pos q] at h
        by_cases q : Rule.is o.a = true
        · rw [if_pos q] at h
          by_cases q : Body.btw o.b 0 7 = true
          · rw [if_pos q] at h
            cases h
          · rw [if_neg q] at h
            injection h with e1; subst e1; decide
        · rw [if_neg q] at h
          injection h with e1; subst e1; decide
      · rw [if_neg q] at h
        by_cases q : o.c = 8
        · rw [if_pos q] at h
          by_cases q : Rule.is o.b = true
          · rw [if_pos q] at h
            by_cases q : Rule.is o.a = true
            · rw [if_pos q] at h
              cases h
            · rw [if_neg q] at h
              injection h with e1; subst e1; decide
          · rw [if_neg q] at h
            injection h with e1; subst e1; decide
        · rw [if_neg q] at h
          by_cases q : o.c = 9
          · rw [if_pos q] at h
            by_cases q : Rule.is o.a = true
            · rw [if_pos q] at h
              by_cases q : Rule.reg e.b o.a = 0
              · rw [if_pos q] at h
                by_cases q : Body.btw o.b 0 n = true
                · rw [if_pos q] at h
                  cases h
                · rw [if_neg q] at h
                  injection h with e1; subst e1; decide
              · rw [if_neg q] at h
                cases h
            · rw [if_neg q] at h
              injection h with e1; subst e1; decide
          · rw [if_neg q] at h
            by_cases q : o.c = 10
            · rw [if_pos q] at h
              by_cases q : Body.btw o.b 0 n = true
              · rw [if_pos q] at h
                cases h
              · rw [if_neg q] at h
                injection h with e1; subst e1; decide
            · rw [if_neg q] at h
              by_cases q : o.c = 11
              · rw [if_pos q] at h
                by_cases q : (Rule.is o.a && Rule.is o.b) = true
                · rw [if_pos q] at h
                  by_cases q : 1 ≤ Rule.reg e.b o.b
                  · rw [if_pos q] at h
                    cases h
                  · rw [if_neg q] at h
                    injection h with e1; subst e1; decide
                · rw [if_neg q] at h
                  injection h with e1; subst e1; decide
              · rw [if_neg q] at h
                by_cases q : o.c = 12
                · rw [if_pos q] at h
                  by_cases q : (Rule.is o.a && Rule.is o.b) = true
                  · rw [if_pos q] at h
                    by_cases q : (e.sh.length : Int) < e.room
                    · rw [if_pos q] at h
                      cases h
                    · rw [if_neg q] at h
                      injection h with e1; subst e1; decide
                  · rw [if_neg q] at h
                    injection h with e1; subst e1; decide
                · rw [if_neg q] at h
                  by_cases q : o.c = 13
                  · rw [if_pos q] at h
                    cases h
                  · rw [if_neg q] at h
                    injection h with e1; subst e1; decide
end Go.Proofs.Ytfeloiodebjolaa
