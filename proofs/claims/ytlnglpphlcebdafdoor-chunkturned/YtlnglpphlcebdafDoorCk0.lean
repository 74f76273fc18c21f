/- Chunks, plainly: how they are written, how they are read. No Go stands here. -/
import Derived.Test.YtlnglpphlcebdafDoorW3
import Derived.Test.YtlnglpphlcebdafDoorCrc2
namespace Go.Proofs.YtlnglpphlcebdafDoor.Ck

/-- A letter's number. -/
def Let (n : Nat) : Prop := (65 ≤ n ∧ n ≤ 90) ∨ (97 ≤ n ∧ n ≤ 122)
instance (n : Nat) : Decidable (Let n) := by unfold Let; infer_instance
/-- Four letters. -/
def Kind (l : List UInt8) : Prop := l.length = 4 ∧ ∀ b ∈ l, Let b.toNat
instance (l : List UInt8) : Decidable (Kind l) := by unfold Kind; infer_instance
/-- Four bytes of a number, the highest first. -/
def be (n : Nat) : List UInt8 := [UInt8.ofNat (n / 16777216), UInt8.ofNat (n / 65536), UInt8.ofNat (n / 256), UInt8.ofNat n]
/-- The number that the first four bytes tell. -/
def n4 (l : List UInt8) : Nat := (l.getD 0 0).toNat * 16777216 + (l.getD 1 0).toNat * 65536 + (l.getD 2 0).toNat * 256 + (l.getD 3 0).toNat
/-- A chunk, written. -/
def one (k d : List UInt8) : List UInt8 := be d.length ++ ((k ++ d) ++ be (crcOf (k ++ d)))
def sig : List UInt8 := [137, 80, 78, 71, 13, 10, 26, 10]
/-- Chunks as a file. -/
def file (cs : List (List UInt8 × List UInt8)) : List UInt8 := sig ++ cs.flatMap (fun c => one c.1 c.2)
def kd (l : List UInt8) : List UInt8 := (l.drop 4).take 4
def dt (l : List UInt8) (n : Nat) : List UInt8 := (l.drop 8).take n

inductive Nx where
  | text
  | sum
  | ok (n : Nat)
/-- The chunk with which a text begins. -/
def nx (l : List UInt8) : Nx :=
  if l.length < 12 then .text
  else if l.length - 12 < n4 l then .text
  else if ¬ Kind (kd l) then .text
  else if n4 (l.drop (8 + n4 l)) = crcOf ((l.drop 4).take (4 + n4 l)) then .ok (n4 l)
  else .sum

inductive Res where
  | bad (c at_ : Nat)
  | fine (cs : List (List UInt8 × List UInt8))
/-- What is read from a place on, with what was read ahead of it. -/
inductive Rd (s : List UInt8) : Nat → List (List UInt8 × List UInt8) → Res → Prop where
  | done {a : Nat} {cs : List (List UInt8 × List UInt8)} (h : s.length ≤ a) : Rd s a cs (.fine cs)
  | text {a : Nat} {cs : List (List UInt8 × List UInt8)} (h : a < s.length) (q : nx (s.drop a) = .text) : Rd s a cs (.bad 0 a)
  | sum {a : Nat} {cs : List (List UInt8 × List UInt8)} (h : a < s.length) (q : nx (s.drop a) = .sum) : Rd s a cs (.bad 3 a)
  | next {a n : Nat} {cs : List (List UInt8 × List UInt8)} {r : Res} (h : a < s.length) (q : nx (s.drop a) = .ok n) (t : Rd s (a + 12 + n) (cs ++ [(kd (s.drop a), dt (s.drop a) n)]) r) : Rd s a cs r

theorem Rd.unique {s : List UInt8} {a : Nat} {cs : List (List UInt8 × List UInt8)} {r : Res} (h : Rd s a cs r) : ∀ {r'}, Rd s a cs r' → r = r' := by
  induction h with
  | done h =>
    intro r' g
    cases g with
    | done _ => rfl
    | text h' _ => omega
    | sum h' _ => omega
    | next h' _ _ => omega
  | text h q =>
    intro r' g
    cases g with
    | done h' => omega
    | text h' _ => rfl
    | sum h' q' => rw [q] at q'; cases q'
    | next h' q' _ => rw [q] at q'; cases q'
  | sum h q =>
    intro r' g
    cases g with
    | done h' => omega
    | text h' q' => rw [q] at q'; cases q'
    | sum h' _ => rfl
    | next h' q' _ => rw [q] at q'; cases q'
  | next h q t ih =>
    intro r' g
    cases g with
    | done h' => omega
    | text h' q' => rw [q] at q'; cases q'
    | sum h' q' => rw [q] at q'; cases q'
    | next h' q' t' => rw [q] at q'; cases q'; exact ih t'

theorem be_length (n : Nat) : (be n).length = 4 := rfl
theorem n4_be (n : Nat) (r : List UInt8) (h : n < 4294967296) : n4 (be n ++ r) = n := by
  simp only [n4, be, List.cons_append, List.getD_cons_zero, List.getD_cons_succ, UInt8.toNat_ofNat']
  omega
theorem n4_lt (l : List UInt8) : n4 l < 4294967296 := by
  have h0 := (l.getD 0 0).toNat_lt
  have h1 := (l.getD 1 0).toNat_lt
  have h2 := (l.getD 2 0).toNat_lt
  have h3 := (l.getD 3 0).toNat_lt
  unfold n4
  omega
theorem four {l : List UInt8} (h : 4 ≤ l.length) : ∃ a b c d r, l = a :: b :: c :: d :: r := by
  match l, h with
  | a :: b :: c :: d :: r, _ => exact ⟨a, b, c, d, r, rfl⟩
theorem u8_of (n : Nat) (b : UInt8) (h : n % 256 = b.toNat) : UInt8.ofNat n = b := by
  apply UInt8.toNat_inj.1
  rw [UInt8.toNat_ofNat']
  exact h
theorem be_n4 {l : List UInt8} (h : 4 ≤ l.length) : be (n4 l) = l.take 4 := by
  obtain ⟨a, b, c, d, r, rfl⟩ := four h
  have ha := a.toNat_lt
  have hb := b.toNat_lt
  have hc := c.toNat_lt
  have hd := d.toNat_lt
  simp only [n4, be, List.getD_cons_zero, List.getD_cons_succ, List.take_succ_cons, List.take_zero]
  rw [u8_of _ a (by omega), u8_of _ b (by omega), u8_of _ c (by omega), u8_of _ d (by omega)]
theorem n4_inj {l m : List UInt8} (hl : 4 ≤ l.length) (hm : 4 ≤ m.length) (h : n4 l = n4 m) : l.take 4 = m.take 4 := by
  rw [← be_n4 hl, ← be_n4 hm, h]
theorem crcOf_lt (l : List UInt8) : crcOf l < 4294967296 := xor_lt32 (by omega) (Crc.run_lt _ _ (by omega))
theorem one_length (k d : List UInt8) : (one k d).length = k.length + d.length + 8 := by
  simp only [one, List.length_append, be_length]; omega

theorem nx_n4 {l : List UInt8} {n : Nat} (g : nx l = .ok n) : n4 l = n := by
  unfold nx at g
  split at g
  · cases g
  split at g
  · cases g
  split at g
  · cases g
  split at g
  · injection g
  · cases g
theorem nx_ok {l : List UInt8} {n : Nat} (h : nx l = .ok n) : 12 + n ≤ l.length ∧ Kind (kd l) ∧ (dt l n).length = n ∧ one (kd l) (dt l n) = l.take (12 + n) := by
  unfold nx at h
  split at h
  · cases h
  next h1 =>
  split at h
  · cases h
  next h2 =>
  split at h
  · cases h
  next h3 =>
  split at h
  next h4 =>
    injection h with h
    subst h
    generalize hn : n4 l = n at *
    have hdl : (dt l n).length = n := by unfold dt; rw [List.length_take, List.length_drop]; omega
    have hkd : kd l ++ dt l n = (l.drop 4).take (4 + n) := by
      unfold kd dt
      rw [List.take_add, List.drop_drop]
    refine ⟨by omega, Decidable.not_not.1 h3, hdl, ?_⟩
    unfold one
    rw [hdl, hkd, ← h4, be_n4 (by rw [List.length_drop]; omega)]
    have e1 : be n = l.take 4 := by rw [← hn]; exact be_n4 (by omega)
    have q1 : l.take (12 + n) = l.take 4 ++ (l.drop 4).take ((4 + n) + 4) := by rw [← List.take_add]; congr 1; omega
    have q2 : (l.drop 4).take ((4 + n) + 4) = (l.drop 4).take (4 + n) ++ (l.drop (8 + n)).take 4 := by
      rw [List.take_add (i := 4 + n) (j := 4), List.drop_drop, show 4 + (4 + n) = 8 + n by omega]
    rw [e1, q1, q2]
  · cases h

theorem kd_one (k d r : List UInt8) (hk : k.length = 4) : kd (one k d ++ r) = k := by
  unfold kd one
  rw [List.append_assoc, List.append_assoc, List.append_assoc, show (4 : Nat) = (be d.length).length from rfl, List.drop_left, be_length, ← hk, List.take_left]
theorem dt_one (k d r : List UInt8) (hk : k.length = 4) : dt (one k d ++ r) d.length = d := by
  unfold dt one
  rw [List.append_assoc, List.append_assoc, List.append_assoc, ← List.append_assoc, show (8 : Nat) = (be d.length ++ k).length by rw [List.length_append, hk, be_length], List.drop_left, List.take_left]
theorem n4_one (k d r : List UInt8) (hd : d.length < 4294967296) : n4 (one k d ++ r) = d.length := by
  unfold one
  rw [List.append_assoc, n4_be _ _ hd]
theorem nx_one (k d r : List UInt8) (hk : Kind k) (hd : d.length < 4294967296) : nx (one k d ++ r) = .ok d.length := by
  have h4 := n4_one k d r hd
  have hl : (one k d ++ r).length = 12 + d.length + r.length := by rw [List.length_append, one_length, hk.1]; omega
  unfold nx
  rw [if_neg (by omega), h4, if_neg (by omega), kd_one k d r hk.1, if_neg (not_not_intro hk), if_pos]
  have e : one k d ++ r = be d.length ++ ((k ++ d) ++ (be (crcOf (k ++ d)) ++ r)) := by simp [one, List.append_assoc]
  have e1 : (one k d ++ r).drop 4 = (k ++ d) ++ (be (crcOf (k ++ d)) ++ r) := by rw [e, show (4 : Nat) = (be d.length).length from rfl, List.drop_left]
  have hx : (k ++ d).length = 4 + d.length := by rw [List.length_append, hk.1]
  have e2 : (one k d ++ r).drop (8 + d.length) = be (crcOf (k ++ d)) ++ r := by
    rw [show 8 + d.length = 4 + (4 + d.length) by omega, ← List.drop_drop, e1, ← hx, List.drop_left]
  rw [e2, n4_be _ _ (crcOf_lt _), e1, ← hx, List.take_left]

theorem file_snoc (cs : List (List UInt8 × List UInt8)) (c : List UInt8 × List UInt8) : file (cs ++ [c]) = file cs ++ one c.1 c.2 := by
  simp [file, List.append_assoc]
theorem file_append (cs ds : List (List UInt8 × List UInt8)) : file (cs ++ ds) = file cs ++ ds.flatMap (fun c => one c.1 c.2) := by
  simp [file, List.append_assoc]
theorem file_pos (cs : List (List UInt8 × List UInt8)) : 8 ≤ (file cs).length := by
  simp only [file, List.length_append]
  exact Nat.le_add_right _ _
/-- Chunks that stand there are read. -/
theorem Rd.back {s : List UInt8} {r : Res} : ∀ (n : Nat) (pre : List (List UInt8 × List UInt8)), pre.length = n → (∀ c ∈ pre, Kind c.1 ∧ c.2.length < 4294967296) → ∀ rest, s = file pre ++ rest → Rd s (file pre).length pre r → Rd s 8 [] r := by
  intro n
  induction n with
  | zero =>
    intro pre hp _ rest _ h
    have : pre = [] := List.eq_nil_of_length_eq_zero hp
    subst this
    exact h
  | succ n ih =>
    intro pre hp hk rest hs h
    have hne : pre ≠ [] := fun e => by rw [e] at hp; cases hp
    obtain ⟨p, c, rfl⟩ : ∃ p c, pre = p ++ [c] := ⟨pre.dropLast, pre.getLast hne, (List.dropLast_concat_getLast hne).symm⟩
    rw [List.length_append] at hp
    have hc := hk c (by simp)
    have hd : s.drop (file p).length = one c.1 c.2 ++ rest := by rw [hs, file_snoc, List.append_assoc, List.drop_left]
    refine ih p (by simpa using hp) (fun c hc => hk c (by simp [hc])) (one c.1 c.2 ++ rest) (by rw [hs, file_snoc, List.append_assoc]) ?_
    refine .next (n := c.2.length) ?_ (by rw [hd]; exact nx_one _ _ _ hc.1 hc.2) ?_
    · rw [hs, file_snoc, List.length_append, List.length_append, one_length]; omega
    · rw [hd, kd_one _ _ _ hc.1.1, dt_one _ _ _ hc.1.1]
      rw [file_snoc, List.length_append, one_length, hc.1.1] at h
      rw [show (file p).length + 12 + c.2.length = (file p).length + (4 + c.2.length + 8) by omega]
      exact h
/-- What is written is read. -/
theorem rd_file (cs : List (List UInt8 × List UInt8)) (hk : ∀ c ∈ cs, Kind c.1 ∧ c.2.length < 4294967296) : Rd (file cs) 8 [] (.fine cs) :=
  Rd.back cs.length cs rfl hk [] (by simp) (.done (Nat.le_refl _))
/-- What is read is written as it was. -/
theorem Rd.file {s : List UInt8} {a : Nat} {cs : List (List UInt8 × List UInt8)} {r : Res} (h : Rd s a cs r) : ∀ {ds}, r = .fine ds → s.take a = Ck.file cs → (∀ c ∈ cs, Kind c.1) → Ck.file ds = s ∧ (∀ c ∈ ds, Kind c.1) := by
  induction h with
  | done h =>
    intro ds e ht hk
    injection e with e
    subst e
    rw [List.take_of_length_le h] at ht
    exact ⟨ht.symm, hk⟩
  | text h q => intro ds e; cases e
  | sum h q => intro ds e; cases e
  | @next a n cs r h q t ih =>
    intro ds e ht hk
    obtain ⟨h1, h2, h3, h4⟩ := nx_ok q
    refine ih e ?_ (fun c hc => ?_)
    · rw [file_snoc, Nat.add_assoc, List.take_add, ht, h4]
    · rcases List.mem_append.1 hc with hc | hc
      · exact hk c hc
      · rw [List.mem_singleton] at hc; subst hc; exact h2

/-- One bit turned behind the length: it is no chunk. -/
theorem nx_turned (k d rest : List UInt8) (p r : Nat) (hk : k.length = 4) (hd : d.length < 4294967296) (h4 : 4 ≤ p) (hp : p < 12 + d.length) (hr : r < 8) (n : Nat) :
    nx ((one k d).set p (UInt8.ofNat (((one k d).getD p 0).toNat ^^^ 2 ^ r)) ++ rest) ≠ .ok n := by
  intro h
  obtain ⟨x, hx⟩ : ∃ x, x = UInt8.ofNat (((one k d).getD p 0).toNat ^^^ 2 ^ r) := ⟨_, rfl⟩
  rw [← hx] at h
  have hol : (one k d).length = 12 + d.length := by rw [one_length, hk]; omega
  have hpo : p < (one k d).length := by omega
  have hne : (one k d).set p x ≠ one k d := fun e => by
    have e1 : ((one k d).set p x).getD p 0 = (one k d).getD p 0 := by rw [e]
    rw [List.getD_eq_getElem?_getD, List.getElem?_set_self hpo] at e1
    simp only [Option.getD_some] at e1
    have h1 := Crc.turned_lt ((one k d).getD p 0).toNat r ((one k d).getD p 0).toNat_lt hr
    have e2 : x.toNat = ((one k d).getD p 0).toNat := by rw [e1]
    rw [hx, UInt8.toNat_ofNat', Nat.mod_eq_of_lt h1] at e2
    have e3 := congrArg (fun y => ((one k d).getD p 0).toNat ^^^ y) e2
    simp only [← Nat.xor_assoc, Nat.xor_self, Nat.zero_xor] at e3
    exact absurd e3 (Nat.ne_of_gt (Nat.two_pow_pos r))
  obtain ⟨h1, h2, h3, h5⟩ := nx_ok h
  have hsl : ((one k d).set p x).length = 12 + d.length := by rw [List.length_set, hol]
  -- the length is as it was
  have hset : (one k d).set p x = be d.length ++ ((k ++ d) ++ be (crcOf (k ++ d))).set (p - 4) x := by
    unfold one
    rw [List.set_append_right _ _ (by rw [be_length]; exact h4), be_length]
  have hn : n = d.length := by
    rw [← nx_n4 h, hset, List.append_assoc, n4_be _ _ hd]
  subst hn
  rw [← hsl, List.take_left] at h5
  generalize kd ((one k d).set p x ++ rest) = k' at *
  generalize dt ((one k d).set p x ++ rest) d.length = d' at *
  rw [hset] at h5
  unfold one at h5
  rw [h3] at h5
  have h6 := List.append_cancel_left h5
  have hxl : (k ++ d).length = 4 + d.length := by rw [List.length_append, hk]
  have hxl' : (k' ++ d').length = 4 + d.length := by rw [List.length_append, h2.1, h3]
  rcases Nat.lt_or_ge (p - 4) (k ++ d).length with c | c
  · rw [List.set_append_left _ _ c] at h6
    obtain ⟨g1, g2⟩ := List.append_inj h6 (by rw [List.length_set, hxl, hxl'])
    have g3 : crcOf (k' ++ d') = crcOf (k ++ d) := by
      have := congrArg n4 g2
      have e1 := n4_be (crcOf (k' ++ d')) [] (crcOf_lt _)
      have e2 := n4_be (crcOf (k ++ d)) [] (crcOf_lt _)
      rw [List.append_nil] at e1 e2
      rw [e1, e2] at this
      exact this
    have g4 : Crc.run 4294967295 (k' ++ d') = Crc.run 4294967295 (k ++ d) := by
      unfold crcOf at g3
      have := congrArg (fun y => 4294967295 ^^^ y) g3
      simpa only [← Nat.xor_assoc, Nat.xor_self, Nat.zero_xor] using this
    have hgd : (one k d).getD p 0 = (k ++ d).getD (p - 4) 0 := by
      unfold one
      rw [List.getD_eq_getElem?_getD, List.getElem?_append_right (by rw [be_length]; exact h4), be_length, List.getElem?_append_left c, ← List.getD_eq_getElem?_getD]
    have hnum : Crc.num (k' ++ d') = Crc.num (k ++ d) ^^^ (2 ^ (8 * (p - 4) + r) * 1) := by
      rw [g1, hx, hgd, Crc.num_set _ _ _ c hr, Nat.mul_one]
    have := Crc.run_burst 4294967295 (k ++ d) (k' ++ d') (by rw [hxl, hxl']) (8 * (p - 4) + r) 1 (by omega) (by omega) hnum g4
    refine hne ?_
    rw [hset, List.set_append_left _ _ c, ← g1, this]
    rfl
  · rw [List.set_append_right _ _ c] at h6
    obtain ⟨g1, g2⟩ := List.append_inj h6 (by rw [hxl, hxl'])
    refine hne ?_
    rw [hset, List.set_append_right _ _ c, ← g2, g1]
    rfl
theorem Rd.bad {s : List UInt8} {a : Nat} {cs : List (List UInt8 × List UInt8)} (ha : a < s.length) (h : ∀ n, nx (s.drop a) ≠ .ok n) : ∃ c b, Rd s a cs (.bad c b) := by
  cases q : nx (s.drop a) with
  | text => exact ⟨_, _, .text ha q⟩
  | sum => exact ⟨_, _, .sum ha q⟩
  | ok n => exact absurd q (h n)
end Go.Proofs.YtlnglpphlcebdafDoor.Ck
