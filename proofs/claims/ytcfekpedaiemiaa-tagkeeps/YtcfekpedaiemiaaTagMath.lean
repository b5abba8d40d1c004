/- Sums modulo a prime, over lists of bytes. Nothing of the program. -/
import Derived.WalkKit
namespace Go.Proofs.Ytcfekpedaiemiaa.Tag

/-- a key modulo the prime -/
def res (k : Int) : Nat := (k % 2147483647).toNat
theorem res_lt (k : Int) : res k < 2147483647 := by unfold res; omega
theorem res_cast (k : Int) : ((res k : Nat) : Int) = k % 2147483647 := by unfold res; omega
def stepN (h b : Nat) : Nat := (h * 257 + b + 1) % 2147483647
def sumH (h : Nat) : List Nat → Nat
  | [] => h
  | b :: l => sumH (stepN h b) l
def sum (k : Int) (bs : List Nat) : Nat := (sumH (res k + 1) bs + bs.length) % 2147483647
theorem sum_lt (k : Int) (bs : List Nat) : sum k bs < 2147483647 := Nat.mod_lt _ (by decide)
theorem sumH_snoc (h : Nat) (l : List Nat) (b : Nat) : sumH h (l ++ [b]) = stepN (sumH h l) b := by
  induction l generalizing h with
  | nil => rfl
  | cons c l ih => rw [List.cons_append, sumH, ih, sumH]
theorem sumH_take (h : Nat) (l : List Nat) (k : Nat) (hk : k < l.length) : sumH h (l.take (k + 1)) = stepN (sumH h (l.take k)) (l.getD k 0) := by
  rw [List.take_succ_eq_append_getElem hk, sumH_snoc, List.getD_eq_getElem?_getD, List.getElem?_eq_getElem hk, Option.getD_some]
theorem sumH_le (h : Nat) (hh : h ≤ 2147483647) (l : List Nat) : sumH h l ≤ 2147483647 := by
  induction l generalizing h with
  | nil => exact hh
  | cons b l ih => exact ih _ (by unfold stepN; omega)
/-- unlike states stay unlike -/
theorem stepN_inj (h h' b : Nat) (e : stepN h b % 2147483647 = stepN h' b % 2147483647) : h % 2147483647 = h' % 2147483647 := by
  unfold stepN at e
  omega
theorem sumH_inj (l : List Nat) : ∀ (h h' : Nat), sumH h l % 2147483647 = sumH h' l % 2147483647 → h % 2147483647 = h' % 2147483647 := by
  induction l with
  | nil => intro h h' e; exact e
  | cons b l ih => intro h h' e; exact stepN_inj h h' b (ih _ _ e)
theorem stepN_turn (h b b' : Nat) (hb : b < 256) (hb' : b' < 256) (e : stepN h b % 2147483647 = stepN h b' % 2147483647) : b = b' := by
  unfold stepN at e
  omega
theorem sumH_turn (l : List Nat) : ∀ (h i b : Nat), i < l.length → (∀ x ∈ l, x < 256) → b < 256 → sumH h l % 2147483647 = sumH h (l.set i b) % 2147483647 → l.getD i 0 = b := by
  induction l with
  | nil => intro h i b hi; simp at hi
  | cons c l ih =>
    intro h i b hi h8 hb e
    cases i with
    | zero =>
      rw [List.set_cons_zero, sumH, sumH] at e
      simpa using stepN_turn h c b (h8 c (by simp)) hb (sumH_inj l _ _ e)
    | succ i =>
      rw [List.set_cons_succ, sumH, sumH] at e
      have := ih _ i b (by simpa using hi) (fun x hx => h8 x (by simp [hx])) hb e
      simpa using this
theorem sum_key (k k' : Int) (bs : List Nat) (e : sum k bs = sum k' bs) : res k = res k' := by
  have h1 := res_lt k
  have h2 := res_lt k'
  unfold sum at e
  have := sumH_inj bs (res k + 1) (res k' + 1) (by omega)
  omega
theorem sum_res (k k' : Int) (bs : List Nat) (e : res k = res k') : sum k bs = sum k' bs := by unfold sum; rw [e]
theorem sum_turn (k : Int) (bs : List Nat) (i b : Nat) (hi : i < bs.length) (h8 : ∀ x ∈ bs, x < 256) (hb : b < 256) (e : sum k bs = sum k (bs.set i b)) : bs.getD i 0 = b := by
  unfold sum at e
  rw [List.length_set] at e
  exact sumH_turn bs (res k + 1) i b hi h8 hb (by omega)

/-! ### four bytes -/
def four (n : Nat) : List Nat := [n / 16777216 % 256, n / 65536 % 256, n / 256 % 256, n % 256]
def toldN (n : Nat) : List Nat → Nat
  | [] => n
  | b :: l => toldN (n * 256 + b) l
theorem toldN_snoc (n : Nat) (l : List Nat) (b : Nat) : toldN n (l ++ [b]) = toldN n l * 256 + b := by
  induction l generalizing n with
  | nil => rfl
  | cons c l ih => rw [List.cons_append, toldN, ih, toldN]
theorem toldN_take (n : Nat) (l : List Nat) (k : Nat) (hk : k < l.length) : toldN n (l.take (k + 1)) = toldN n (l.take k) * 256 + l.getD k 0 := by
  rw [List.take_succ_eq_append_getElem hk, toldN_snoc, List.getD_eq_getElem?_getD, List.getElem?_eq_getElem hk, Option.getD_some]
theorem toldN_lt (l : List Nat) : ∀ (n k : Nat), (∀ x ∈ l, x < 256) → n < 256 ^ k → toldN n l < 256 ^ (k + l.length) := by
  induction l with
  | nil => intro n k _ h; exact h
  | cons b l ih =>
    intro n k h8 h
    have hb := h8 b (by simp)
    have := ih (n * 256 + b) (k + 1) (fun x hx => h8 x (by simp [hx])) (by rw [Nat.pow_succ]; omega)
    rw [List.length_cons, show k + (l.length + 1) = k + 1 + l.length by omega]
    exact this
theorem four_length (n : Nat) : (four n).length = 4 := rfl
theorem four_lt (n : Nat) : ∀ x ∈ four n, x < 256 := by
  intro x hx
  simp only [four, List.mem_cons, List.not_mem_nil, or_false] at hx
  rcases hx with rfl | rfl | rfl | rfl <;> omega
theorem told_four (n : Nat) (h : n < 4294967296) : toldN 0 (four n) = n := by
  simp only [four, toldN]
  omega
theorem four_told (l : List Nat) (hl : l.length = 4) (h8 : ∀ x ∈ l, x < 256) : four (toldN 0 l) = l := by
  match l, hl with
  | [a, b, c, d], _ =>
    have ha := h8 a (by simp)
    have hb := h8 b (by simp)
    have hc := h8 c (by simp)
    have hd := h8 d (by simp)
    simp only [four, toldN, List.cons.injEq, and_true]
    omega

/-- what is closed -/
def close (k : Int) (bs : List Nat) : List Nat := bs ++ four (sum k bs)
theorem close_length (k : Int) (bs : List Nat) : (close k bs).length = bs.length + 4 := by simp [close, four]
theorem close_lt (k : Int) (bs : List Nat) (h : ∀ x ∈ bs, x < 256) : ∀ x ∈ close k bs, x < 256 := by
  intro x hx
  rcases List.mem_append.1 hx with hx | hx
  · exact h x hx
  · exact four_lt _ x hx
/-- whether bytes open -/
def opens (k : Int) (z : List Nat) : Bool := decide (4 ≤ z.length) && decide (toldN 0 (z.drop (z.length - 4)) = sum k (z.take (z.length - 4)))
/-- what they open to -/
def body (k : Int) (z : List Nat) : List Nat := if opens k z then z.take (z.length - 4) else []
/-- they open where they are what was closed -/
theorem opens_close (k : Int) (z : List Nat) (h8 : ∀ x ∈ z, x < 256) (h4 : 4 ≤ z.length) : opens k z = decide (close k (z.take (z.length - 4)) = z) := by
  unfold opens
  rw [decide_eq_true h4, Bool.true_and]
  congr 1
  apply propext
  constructor
  · intro e
    unfold close
    rw [← e, four_told _ (by simp; omega) (fun x hx => h8 x (List.mem_of_mem_drop hx)), List.take_append_drop]
  · intro e
    have h1 : z.drop (z.length - 4) = four (sum k (z.take (z.length - 4))) := by
      have h2 := congrArg (fun l => l.drop (z.length - 4)) e
      simp only [close] at h2
      rw [List.drop_append_of_le_length (by simp), List.drop_eq_nil_of_le (by simp), List.nil_append] at h2
      exact h2.symm
    rw [h1, told_four _ (by have := sum_lt k (z.take (z.length - 4)); omega)]
theorem close_take (k : Int) (bs : List Nat) : (close k bs).take ((close k bs).length - 4) = bs := by
  rw [close_length, Nat.add_sub_cancel, close, List.take_left]
theorem opens_self (k : Int) (bs : List Nat) (h8 : ∀ x ∈ bs, x < 256) : opens k (close k bs) = true := by
  rw [opens_close k _ (close_lt k bs h8) (by rw [close_length]; omega), close_take]
  simp
theorem opens_other (k k' : Int) (bs : List Nat) (h8 : ∀ x ∈ bs, x < 256) : opens k' (close k bs) = decide (res k' = res k) := by
  rw [opens_close k' _ (close_lt k bs h8) (by rw [close_length]; omega), close_take]
  congr 1
  apply propext
  constructor
  · intro e
    unfold close at e
    have e2 := List.append_cancel_left e
    have e3 := congrArg (toldN 0) e2
    rw [told_four _ (by have := sum_lt k' bs; omega), told_four _ (by have := sum_lt k bs; omega)] at e3
    exact sum_key k' k bs e3
  · intro e
    unfold close
    rw [sum_res k' k bs e]
/-- with one byte turned they do not -/
theorem opens_turn (k : Int) (bs : List Nat) (i b : Nat) (h8 : ∀ x ∈ bs, x < 256) (hi : i < (close k bs).length) (hb : b < 256) : opens k ((close k bs).set i b) = decide ((close k bs).getD i 0 = b) := by
  have hz8 := close_lt k bs h8
  have hl : ((close k bs).set i b).length = bs.length + 4 := by rw [List.length_set, close_length]
  have h8' : ∀ x ∈ (close k bs).set i b, x < 256 := by
    intro x hx
    rcases List.mem_or_eq_of_mem_set hx with h | h
    · exact hz8 x h
    · omega
  rw [opens_close k _ h8' (by omega), hl, Nat.add_sub_cancel]
  congr 1
  apply propext
  by_cases hc : i < bs.length
  · have e1 : (close k bs).set i b = bs.set i b ++ four (sum k bs) := by unfold close; rw [List.set_append_left _ _ hc]
    have e2 : (close k bs).getD i 0 = bs.getD i 0 := by
      unfold close
      simp [List.getD_eq_getElem?_getD, List.getElem?_append_left hc]
    rw [e1, e2, List.take_left' (by simp)]
    constructor
    · intro e
      unfold close at e
      have e3 := congrArg (toldN 0) (List.append_cancel_left e)
      rw [told_four _ (by have := sum_lt k (bs.set i b); omega), told_four _ (by have := sum_lt k bs; omega)] at e3
      exact sum_turn k bs i b hc h8 hb e3.symm
    · intro e
      have : bs.set i b = bs := by
        apply List.ext_getElem?
        intro j
        rw [List.getElem?_set]
        split
        · rename_i hj
          subst hj
          rw [← e, List.getD_eq_getElem?_getD, List.getElem?_eq_getElem hc, Option.getD_some]
        · rfl
      rw [this, close]
  · have e1 : ((close k bs).set i b).take bs.length = bs := by
      rw [List.take_set_of_le (by omega), close, List.take_left]
    rw [e1]
    constructor
    · intro e
      have := congrArg (fun l => l.getD i 0) e
      simp only [List.getD_eq_getElem?_getD, List.getElem?_set_self hi, Option.getD_some] at this
      simpa [List.getD_eq_getElem?_getD] using this
    · intro e
      apply List.ext_getElem?
      intro j
      rw [List.getElem?_set]
      split
      · rename_i hj
        subst hj
        rw [← e, List.getD_eq_getElem?_getD, List.getElem?_eq_getElem hi, Option.getD_some]
      · rfl

/-- the mark -/
def mark (bs : List Nat) : Nat := sum 7 bs * 2147483648 + sum 11 bs
theorem mark_lt (bs : List Nat) : mark bs < 4611686018427387904 := by
  have h1 := sum_lt 7 bs
  have h2 := sum_lt 11 bs
  unfold mark
  omega
theorem mark_turn (bs : List Nat) (i b : Nat) (hi : i < bs.length) (h8 : ∀ x ∈ bs, x < 256) (hb : b < 256) (e : mark bs = mark (bs.set i b)) : bs.getD i 0 = b := by
  have h1 := sum_lt 7 bs
  have h2 := sum_lt 11 bs
  have h3 := sum_lt 7 (bs.set i b)
  have h4 := sum_lt 11 (bs.set i b)
  unfold mark at e
  exact sum_turn 7 bs i b hi h8 hb (by omega)
/-- a byte turned by one that is not 0 is another one -/
theorem xor_same (x y : Nat) : x ^^^ y = x ↔ y = 0 := by
  constructor
  · intro h
    have := congrArg (x ^^^ ·) h
    simp only [← Nat.xor_assoc, Nat.xor_self, Nat.zero_xor] at this
    exact this
  · rintro rfl; simp
end Go.Proofs.Ytcfekpedaiemiaa.Tag
