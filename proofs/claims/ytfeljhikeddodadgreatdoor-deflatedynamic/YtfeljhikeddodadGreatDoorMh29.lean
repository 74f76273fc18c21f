/- What a run of symbols tells of tokens that are written as pieces. A dynamic block of tokens, the last one: what its reading tells. What the walks of packed texts want of the errors and the tables. -/
import Derived.Test.YtfeljhikeddodadGreatDoorRf13
import Derived.Test.YtfeljhikeddodadGreatDoorMh21
import Derived.Test.YtfeljhikeddodadGreatDoorMh23
import Derived.Test.YtfeljhikeddodadGreatDoorMh22
namespace Go.Proofs.YtfeljhikeddodadGreatDoor
open Go.RowKit Pm Cn Nf Ps

theorem Trc.congr {V nb most N1 N2 : Nat} {l1 l1' l2 l2' : Nat → Nat} {s0 s : St} {t0 ts : List Value} {c7 c8 : Nat → Nat} (h1 : ∀ i, i < N1 → l1 i = l1' i) (h2 : ∀ i, i < N2 → l2 i = l2' i)
    (h : Trc V nb most l1 N1 l2 N2 s0 t0 s ts c7 c8) : Trc V nb most l1' N1 l2' N2 s0 t0 s ts c7 c8 := by
  induction h with
  | start => exact .start
  | @byte k i o ts c7 c8 h hw hi hr ih =>
    have hiN := (of_wd hw).1
    rw [h1 i hiN]
    exact .byte ih (by rw [← wd_congr h1]; exact hw) hi hr
  | @far k i x d y o ts c7 c8 h hw a1 a2 hx hd hd30 hy hb hm ih =>
    have hiN := (of_wd hw).1
    have hdN := (of_wd hd).1
    rw [h1 i hiN] at hx hd hy ⊢
    rw [h2 d hdN] at hy ⊢
    exact .far ih (by rw [← wd_congr h1]; exact hw) a1 a2 hx (by rw [← wd_congr h2]; exact hd) hd30 hy hb hm
/-- The cells of the first tokens. -/
def tkc (t : Tks) : Nat → List Value
  | 0 => []
  | i + 1 => tkc t i ++ [.int .u8 (t.b i : Int), .int .i64 (t.l i), .int .i64 (t.d i)]
theorem tkc_length (t : Tks) (n : Nat) : (tkc t n).length = 3 * n := by
  induction n with
  | zero => rfl
  | succ n ih => simp [tkc, ih]; omega
theorem tkc_at (t : Tks) (n i : Nat) (h : i < n) : (tkc t n)[i * 3]? = some (.int .u8 (t.b i : Int)) ∧ (tkc t n)[i * 3 + 1]? = some (.int .i64 (t.l i)) ∧ (tkc t n)[i * 3 + 2]? = some (.int .i64 (t.d i)) := by
  induction n with
  | zero => omega
  | succ n ih =>
    have hl := tkc_length t n
    unfold tkc
    by_cases e : i = n
    · subst e
      refine ⟨?_, ?_, ?_⟩
      · rw [List.getElem?_append_right (by omega), show i * 3 - (tkc t i).length = 0 by omega]; rfl
      · rw [List.getElem?_append_right (by omega), show i * 3 + 1 - (tkc t i).length = 1 by omega]; rfl
      · rw [List.getElem?_append_right (by omega), show i * 3 + 2 - (tkc t i).length = 2 by omega]; rfl
    · obtain ⟨a, b, c⟩ := ih (by omega)
      exact ⟨by rw [List.getElem?_append_left (by omega)]; exact a, by rw [List.getElem?_append_left (by omega)]; exact b, by rw [List.getElem?_append_left (by omega)]; exact c⟩
abbrev preT (l1 : Nat → Nat) (N1 : Nat) (l2 : Nat → Nat) (N2 : Nat) (t : Tks) (j : Nat) : List Pc := preP (Ps.word l1 N1) (Ps.word l2 N2) t.b (fun i => (t.l i).toNat) (fun i => (t.d i).toNat) j
section
variable {V nb most k0 n N1 N2 : Nat} {l1 l2 : Nat → Nat} {t : Tks}

theorem at_tok (hat : At V nb k0 (preT l1 N1 l2 N2 t n ++ [Ps.word l1 N1 256])) (ht : ∀ i, i < n → Tok (t.b i) (t.l i).toNat (t.d i).toNat) {j : Nat} (hj : j < n) : At V nb (k0 + len (preT l1 N1 l2 N2 t j)) (tokP (Ps.word l1 N1) (Ps.word l2 N2) (t.b j) (t.l j).toNat (t.d j).toNat) := by
  have h1 := (At.split (preP_fit ht) hat).1
  obtain ⟨r, hr⟩ := preP_front (Ps.word l1 N1) (Ps.word l2 N2) t.b (fun i => (t.l i).toNat) (fun i => (t.d i).toNat) (show j + 1 ≤ n from hj)
  rw [hr] at h1
  have hf : Fit (preP (Ps.word l1 N1) (Ps.word l2 N2) t.b (fun i => (t.l i).toNat) (fun i => (t.d i).toNat) (j + 1)) := preP_fit (fun i hi => ht i (by omega))
  have h2 := (At.split hf h1).1
  have hf2 : Fit (preP (Ps.word l1 N1) (Ps.word l2 N2) t.b (fun i => (t.l i).toNat) (fun i => (t.d i).toNat) j) := preP_fit (fun i hi => ht i (by omega))
  exact (At.split (a := preP (Ps.word l1 N1) (Ps.word l2 N2) t.b (fun i => (t.l i).toNat) (fun i => (t.d i).toNat) j) hf2 h2).2
theorem at_end (hat : At V nb k0 (preT l1 N1 l2 N2 t n ++ [Ps.word l1 N1 256])) (ht : ∀ i, i < n → Tok (t.b i) (t.l i).toNat (t.d i).toNat) : At V nb (k0 + len (preT l1 N1 l2 N2 t n)) [Ps.word l1 N1 256] :=
  (At.split (preP_fit ht) hat).2
theorem preT_len {j : Nat} : len (preT l1 N1 l2 N2 t (j + 1)) = len (preT l1 N1 l2 N2 t j) + len (tokP (Ps.word l1 N1) (Ps.word l2 N2) (t.b j) (t.l j).toNat (t.d j).toNat) := by
  show len (preP _ _ _ _ _ j ++ _) = _
  rw [len_append]
/-- What was read are the first tokens. -/
theorem trc_toks (h1 : ∀ x, x < N1 → l1 x ≤ 15) (h2 : ∀ x, x < N2 → l2 x ≤ 15) (k1 : all l1 N1 ≤ 2 ^ 15) (k2 : all l2 N2 ≤ 2 ^ 15) (hsh : ∀ i, i < n → t.shaped i) (hb8 : ∀ i, i < n → t.b i < 256)
    (hu : ∀ i, i < n → Uses l1 N1 l2 N2 (t.b i) (t.l i).toNat (t.d i).toNat) (h256 : 256 < N1) (h0 : 0 < l1 256) (hat : At V nb k0 (preT l1 N1 l2 N2 t n ++ [Ps.word l1 N1 256]))
    {s : St} {ts : List Value} {c7 c8 : Nat → Nat} (h : Trc V nb most l1 N1 l2 N2 (k0, []) [] s ts c7 c8) :
    ∃ j, j ≤ n ∧ s.1 = k0 + len (preT l1 N1 l2 N2 t j) ∧ ts = tkc t j ∧ (∀ x, c7 x = cS t j x) ∧ (∀ x, c8 x = cD t j x) := by
  have ht : ∀ i, i < n → Tok (t.b i) (t.l i).toNat (t.d i).toNat := fun i hi => Tks.tok (hsh i hi) (hb8 i hi)
  have hend : wd V nb l1 N1 (k0 + len (preT l1 N1 l2 N2 t n)) = some 256 := At.word h1 h256 h0 (code_lt l1 N1 256 h256 h0 (h1 256 h256) k1) (at_end hat ht)
  induction h with
  | start => exact ⟨0, Nat.zero_le _, by simp [preP, len], rfl, fun _ => rfl, fun _ => rfl⟩
  | @byte k i o ts c7 c8 h hw hi hr ih =>
    obtain ⟨j, hj, hk, hts, e7, e8⟩ := ih
    simp only at hk
    subst hk
    rcases Nat.lt_or_ge j n with hjn | hjn
    rotate_left
    · obtain rfl : j = n := by omega
      rw [hend] at hw
      injection hw with hw
      omega
    have ha := at_tok hat ht hjn
    have hs := hsh j hjn
    have hu' := hu j hjn
    have hl : len (tokP (Ps.word l1 N1) (Ps.word l2 N2) (t.b j) (t.l j).toNat (t.d j).toNat) = len (tokP (Ps.word l1 N1) (Ps.word l2 N2) (t.b j) (t.l j).toNat (t.d j).toNat) := rfl
    unfold Tks.shaped at hs
    by_cases e : t.l j = 0
    rotate_left
    · rw [if_neg e] at hs
      have e2 : ¬ (t.l j).toNat = 0 := by omega
      unfold tokP at ha
      unfold Uses at hu'
      rw [if_neg e2] at ha hu'
      obtain ⟨a1, _⟩ := At.cons (word_fit _ _ _) ha
      have hw1 := At.word h1 hu'.1.1 hu'.1.2 (code_lt l1 N1 _ hu'.1.1 hu'.1.2 (h1 _ hu'.1.1) k1) a1
      rw [hw1] at hw
      injection hw with hw
      omega
    rw [if_pos e] at hs
    have e2 : (t.l j).toNat = 0 := by omega
    unfold Uses at hu'
    rw [if_pos e2] at hu'
    have hlen : len (tokP (Ps.word l1 N1) (Ps.word l2 N2) (t.b j) (t.l j).toNat (t.d j).toNat) = l1 (t.b j) := by
      unfold tokP
      rw [if_pos e2]
      simp [len, Ps.word]
    unfold tokP at ha
    rw [if_pos e2] at ha
    have hw1 := At.word h1 hu'.1 hu'.2 (code_lt l1 N1 _ hu'.1 hu'.2 (h1 _ hu'.1) k1) ha
    rw [hw1] at hw
    injection hw with hw
    subst hw
    refine ⟨j + 1, hjn, ?_, ?_, fun x => ?_, fun x => ?_⟩
    · show _ + l1 (t.b j) = _
      rw [preT_len, hlen]
      omega
    · rw [hts]
      show _ = tkc t j ++ _
      rw [e, hs, UInt8.toNat_ofNat', Nat.mod_eq_of_lt (show t.b j < 2 ^ 8 from hi)]
    · show bump c7 (t.b j) x = cS t j x + if x = symT t j then 1 else 0
      unfold bump symT
      rw [if_pos e, e7]
      split <;> omega
    · show c8 x = cD t j x + if t.l j ≠ 0 ∧ x = pl dists (t.d j).toNat then 1 else 0
      rw [if_neg (fun q => q.1 e), e8]
      omega
  | @far k i x d y o ts c7 c8 h hw a1 a2 hx hd hd30 hy hb hm ih =>
    obtain ⟨j, hj, hk, hts, e7, e8⟩ := ih
    simp only at hk
    subst hk
    rcases Nat.lt_or_ge j n with hjn | hjn
    rotate_left
    · obtain rfl : j = n := by omega
      rw [hend] at hw
      injection hw with hw
      omega
    have ha := at_tok hat ht hjn
    have hs := hsh j hjn
    have hu' := hu j hjn
    have htj := ht j hjn
    unfold Tks.shaped at hs
    by_cases e : t.l j = 0
    · have e2 : (t.l j).toNat = 0 := by omega
      unfold tokP at ha
      unfold Uses at hu'
      rw [if_pos e2] at ha hu'
      have hw1 := At.word h1 hu'.1 hu'.2 (code_lt l1 N1 _ hu'.1 hu'.2 (h1 _ hu'.1) k1) ha
      rw [hw1] at hw
      injection hw with hw
      have := hb8 j hjn
      omega
    rw [if_neg e] at hs
    have e2 : ¬ (t.l j).toNat = 0 := by omega
    obtain ⟨L, hL⟩ : ∃ L, L = (t.l j).toNat := ⟨_, rfl⟩
    obtain ⟨D, hD⟩ : ∃ D, D = (t.d j).toNat := ⟨_, rfl⟩
    rw [← hL, ← hD] at ha htj hu'
    rw [← hL] at e2
    unfold Uses at hu'
    rw [if_neg e2] at hu'
    unfold Tok at htj
    rw [if_neg e2] at htj
    obtain ⟨p1, p2, p3⟩ := pl_lens htj.1
    obtain ⟨q1, q2, q3⟩ := pl_dists htj.2
    have hlen : len (tokP (Ps.word l1 N1) (Ps.word l2 N2) (t.b j) L D) = l1 (257 + pl lens L) + lenBits (pl lens L) + l2 (pl dists D) + distBits (pl dists D) := by
      unfold tokP
      rw [if_neg e2]
      simp only [len, Ps.word]
      omega
    unfold tokP at ha
    rw [if_neg e2] at ha
    obtain ⟨b1, ha⟩ := At.cons (word_fit _ _ _) ha
    obtain ⟨b2, ha⟩ := At.cons p3 ha
    obtain ⟨b3, b4⟩ := At.cons (word_fit _ _ _) ha
    have hw1 := At.word h1 hu'.1.1 hu'.1.2 (code_lt l1 N1 _ hu'.1.1 hu'.1.2 (h1 _ hu'.1.1) k1) b1
    have hw2 := At.word h2 hu'.2.1 hu'.2.2 (code_lt l2 N2 _ hu'.2.1 hu'.2.2 (h2 _ hu'.2.1) k2) b3
    have g1 := b2.got
    have g2 := b4.got
    simp only [Ps.word] at g1 g2 hw2
    rw [hw1] at hw
    injection hw with hw
    subst hw
    rw [show 257 + pl lens L - 257 = pl lens L by omega] at hx hd hy hm ⊢
    rw [g1] at hx
    injection hx with hx
    subst hx
    rw [hw2] at hd
    injection hd with hd
    subst hd
    rw [g2] at hy
    injection hy with hy
    subst hy
    have eL : lens.getD (pl lens L) 0 + (L - lens.getD (pl lens L) 0) = L := by omega
    have eD : dists.getD (pl dists D) 0 + (D - dists.getD (pl dists D) 0) = D := by omega
    refine ⟨j + 1, hjn, ?_, ?_, fun x => ?_, fun x => ?_⟩
    · show _ + l1 (257 + pl lens L) + lenBits (pl lens L) + l2 (pl dists D) + distBits (pl dists D) = _
      rw [preT_len, ← hL, ← hD, hlen]
      omega
    · rw [hts, eL, eD]
      show _ = tkc t j ++ _
      rw [hs.1, show t.l j = ((L : Nat) : Int) by omega, show t.d j = ((D : Nat) : Int) by omega]
      rfl
    · show bump c7 (257 + pl lens L) x = cS t j x + if x = symT t j then 1 else 0
      unfold bump symT
      rw [if_neg e, ← hL, e7]
      split <;> omega
    · show bump c8 (pl dists D) x = cD t j x + if t.l j ≠ 0 ∧ x = pl dists (t.d j).toNat then 1 else 0
      unfold bump
      rw [← hD, e8]
      by_cases c : x = pl dists D
      · rw [if_pos c, if_pos ⟨e, c⟩]
      · rw [if_neg c, if_neg (fun q => c q.2)]
        omega
/-- .. all of them, where the word of the end stands. -/
theorem trc_all (h1 : ∀ x, x < N1 → l1 x ≤ 15) (h2 : ∀ x, x < N2 → l2 x ≤ 15) (k1 : all l1 N1 ≤ 2 ^ 15) (k2 : all l2 N2 ≤ 2 ^ 15) (hsh : ∀ i, i < n → t.shaped i) (hb8 : ∀ i, i < n → t.b i < 256)
    (hu : ∀ i, i < n → Uses l1 N1 l2 N2 (t.b i) (t.l i).toNat (t.d i).toNat) (h256 : 256 < N1) (h0 : 0 < l1 256) (hat : At V nb k0 (preT l1 N1 l2 N2 t n ++ [Ps.word l1 N1 256]))
    {k : Nat} {o : List UInt8} {ts : List Value} {c7 c8 : Nat → Nat} (h : Trc V nb most l1 N1 l2 N2 (k0, []) [] (k, o) ts c7 c8) (hw : wd V nb l1 N1 k = some 256) :
    ts = tkc t n ∧ (∀ x, c7 x = cS t n x) ∧ (∀ x, c8 x = cD t n x) := by
  have ht : ∀ i, i < n → Tok (t.b i) (t.l i).toNat (t.d i).toNat := fun i hi => Tks.tok (hsh i hi) (hb8 i hi)
  obtain ⟨j, hj, hk, hts, e7, e8⟩ := trc_toks h1 h2 k1 k2 hsh hb8 hu h256 h0 hat h
  simp only at hk
  rcases Nat.lt_or_ge j n with hjn | hjn
  rotate_left
  · obtain rfl : j = n := by omega
    exact ⟨hts, e7, e8⟩
  exfalso
  have ha := at_tok hat ht hjn
  have hu' := hu j hjn
  rw [← hk] at ha
  unfold tokP at ha
  unfold Uses at hu'
  by_cases e2 : (t.l j).toNat = 0
  · rw [if_pos e2] at ha hu'
    have hw1 := At.word h1 hu'.1 hu'.2 (code_lt l1 N1 _ hu'.1 hu'.2 (h1 _ hu'.1) k1) ha
    rw [hw1] at hw
    injection hw with hw
    have := hb8 j hjn
    omega
  · rw [if_neg e2] at ha hu'
    obtain ⟨b1, _⟩ := At.cons (word_fit _ _ _) ha
    have hw1 := At.word h1 hu'.1.1 hu'.1.2 (code_lt l1 N1 _ hu'.1.1 hu'.1.2 (h1 _ hu'.1.1) k1) b1
    rw [hw1] at hw
    injection hw with hw
    omega
end
end Go.Proofs.YtfeljhikeddodadGreatDoor
namespace Go.Proofs.YtfeljhikeddodadGreatDoor
open Go.RowKit Pm Cn Nf Ps

/-- The lengths in a row. -/
abbrev rowOf2 (ns nd : Nat) (l1 l2 : Nat → Nat) : List Nat := (List.range ns).map l1 ++ (List.range nd).map l2
theorem dyn_parts {V nb most n ns nd nc : Nat} {l0 l1 l2 : Nat → Nat} {ss : List Sp} {t : Tks} (h : Hd ns nd nc l0 l1 l2 ss) (hc : Cds ns nd l1 l2) (hsh : ∀ i, i < n → t.shaped i) (hb : ∀ i, i < n → t.b i < 256) (hd : ∀ i, i < n → t.d i ≤ (t.out i).length)
    (hu : ∀ i, i < n → Uses l1 286 l2 30 (t.b i) (t.l i).toNat (t.d i).toNat) (hm : (t.out n).length ≤ most) (hat : At V nb 0 (dynP ns nd nc l0 l1 l2 ss t n)) :
    3 ≤ nb ∧ V / 2 ^ 0 % 2 ^ 1 = 1 ∧ V / 2 ^ 1 % 2 ^ 2 = 2 ∧ dyn V nb 3 = some (3 + len (headP ns nd nc l0 ss), rowOf2 ns nd l1 l2, ns) ∧
    Run (tokStep V nb most (fun i => (rowOf2 ns nd l1 l2).getD i 0) ns (fun i => (rowOf2 ns nd l1 l2).getD (ns + i) 0) ((rowOf2 ns nd l1 l2).length - ns)) (3 + len (headP ns nd nc l0 ss), []) (.ok (len (dynP ns nd nc l0 l1 l2 ss t n)) (t.out n)) ∧
    At V nb (3 + len (headP ns nd nc l0 ss)) (preT l1 ns l2 nd t n ++ [Ps.word l1 ns 256]) := by
  obtain ⟨s1, s2⟩ := h.s
  obtain ⟨d1, d2⟩ := h.d
  unfold dynP at hat
  obtain ⟨h1, h2⟩ := At.split (Fit.cons (by decide) (Fit.cons (by decide) Fit.nil)) hat
  obtain ⟨h3, h4⟩ := At.cons (by decide) h1
  have e3 := h3.one
  have e4 := h4.one
  simp only [Nat.zero_add] at e3 e4
  have hlen : len [((1 : Nat), 1), ((2 : Nat), 2)] = 3 := rfl
  rw [hlen, Nat.zero_add] at h2
  obtain ⟨g1, g2⟩ := At.split h.fit h2
  have hdyn := dyn_head h g1
  rw [word_trim l1 s2 hc.t1, word_trim l2 d2 hc.t2] at g2
  have hrun := toks_run (most := most) (l1 := l1) (N1 := ns) (l2 := l2) (N2 := nd) (fun x hx => hc.c1.le x (by omega)) (fun x hx => hc.c2.le x (by omega)) (by rw [← all_trim l1 s2 hc.t1]; exact hc.c1.fit) (by rw [← all_trim l2 d2 hc.t2]; exact hc.c2.fit) (fun i hi => Tks.tok (hsh i hi) (hb i hi)) (fun i hi => uses_trim hc (hu i hi)) (fun i hi _ => by
    rw [preO_out t i (fun j hj => hsh j (by omega))]
    have := hd i hi
    omega) (by rw [preO_out t n hsh]; exact hm) (by omega) h.e g2
  rw [preO_out t n hsh] at hrun
  have htok : tokStep V nb most (fun i => (rowOf2 ns nd l1 l2).getD i 0) ns (fun i => (rowOf2 ns nd l1 l2).getD (ns + i) 0) nd = tokStep V nb most l1 ns l2 nd :=
    tokStep_congr (fun i hi => row_one l1 l2 ns nd i hi) (fun i hi => row_two l1 l2 ns nd i hi)
  refine ⟨by omega, e3.2, e4.2, hdyn, ?_, g2⟩
  rw [show (rowOf2 ns nd l1 l2).length - ns = nd by simp [rowOf2], htok]
  have hk : len (dynP ns nd nc l0 l1 l2 ss t n) = 3 + len (headP ns nd nc l0 ss) + len (preP (Ps.word l1 ns) (Ps.word l2 nd) t.b (fun i => (t.l i).toNat) (fun i => (t.d i).toNat) n ++ [Ps.word l1 ns 256]) := by
    unfold dynP
    rw [len_append (a := [(1, 1), (2, 2)]), hlen, len_append (a := headP ns nd nc l0 ss), word_trim l1 s2 hc.t1, word_trim l2 d2 hc.t2, Nat.add_assoc]
  rw [hk]
  exact hrun
/-- What is told of the block: tokens, counts, lengths, as the statement asks for them. -/
structure DTold (t : Tks) (n ns nd : Nat) (l1 l2 : Nat → Nat) (w : World) (e : Ending) (o : ByteArray) (us : Nat) : Prop where
  all : ∃ a11 k11 g c gg, e = .returned (.agg #[.string o, .int .i64 (us : Int), .int .i64 0, .slice (some ⟨g, 0, none⟩) ns c, .slice (some ⟨g, ns, none⟩) nd (c - ns), .slice (some ⟨gg, 0, none⟩) 300 300, .slice (some ⟨gg + 1, 0, none⟩) 40 40, .int .i64 1, .int .i64 2, .slice a11 n k11]) ∧
    IsTokens w a11 n t ∧ IsInts w (some ⟨gg, 0, none⟩) 286 (fun i => (cE t n i : Int)) ∧ IsInts w (some ⟨gg + 1, 0, none⟩) 30 (fun i => (cD t n i : Int)) ∧ IsInts w (some ⟨g, 0, none⟩) ns (fun i => (l1 i : Int)) ∧ IsInts w (some ⟨g, ns, none⟩) nd (fun i => (l2 i : Int))
theorem cS_small (t : Tks) (n x : Nat) : cS t n x ≤ n := cS_le t n x
theorem cD_small (t : Tks) (n x : Nat) : cD t n x ≤ n := by
  induction n with
  | zero => exact Nat.le_refl _
  | succ n ih => show cD t n x + _ ≤ _; split <;> omega
theorem dyn_told {t : Tks} {n ns nd nc : Nat} {l0 l1 l2 : Nat → Nat} {ss : List Sp} {w : World} {e : Ending} {m : Nat} (h : DynOf t n ns nd nc l0 l1 l2 ss) (hg : ∀ i, i < n → t.good i) (hb : ∀ i, i < n → t.b i < 256) (hn : n ≤ 20000)
    (hat : At (tv (textP (dynP ns nd nc l0 l1 l2 ss t n))) (8 * (textP (dynP ns nd nc l0 l1 l2 ss t n)).size) (3 + len (headP ns nd nc l0 ss)) (preT l1 ns l2 nd t n ++ [Ps.word l1 ns 256]))
    (hd : DynTold (textP (dynP ns nd nc l0 l1 l2 ss t n)) m (3 + len (headP ns nd nc l0 ss)) (rowOf2 ns nd l1 l2) ns w (len (dynP ns nd nc l0 l1 l2 ss t n)) (t.out n) e) :
    DTold t n ns nd l1 l2 w e ⟨(t.out n).toArray⟩ (textP (dynP ns nd nc l0 l1 l2 ss t n)).size := by
  obtain ⟨R, xe, a11, k11, he, hown, hF⟩ := hd
  obtain ⟨kz, c7, c8, gg, tr, hw, _, e7, e8, u7, u8⟩ := hF.trc
  obtain ⟨g, c, _, e5, e6, hrow⟩ := hF.lens
  obtain ⟨s1, s2⟩ := h.hd.s
  obtain ⟨d1, d2⟩ := h.hd.d
  have hrl : (rowOf2 ns nd l1 l2).length = ns + nd := by simp [rowOf2]
  have hrd : (rowOf2 ns nd l1 l2).length - ns = nd := by omega
  rw [hrd] at tr e6
  have tr2 := Trc.congr (l1' := l1) (l2' := l2) (fun i hi => row_one l1 l2 ns nd i hi) (fun i hi => row_two l1 l2 ns nd i hi) tr
  rw [wd_congr (l' := l1) (fun i hi => row_one l1 l2 ns nd i hi)] at hw
  have hsh : ∀ i, i < n → t.shaped i := fun i hi => (hg i hi).1
  obtain ⟨hts, h7, h8⟩ := trc_all (fun x hx => h.cds.c1.le x (by omega)) (fun x hx => h.cds.c2.le x (by omega)) (by rw [← all_trim l1 s2 h.cds.t1]; exact h.cds.c1.fit) (by rw [← all_trim l2 d2 h.cds.t2]; exact h.cds.c2.fit) hsh hb (fun i hi => uses_trim h.cds (h.uses i hi)) (by omega) h.hd.e hat tr2 hw
  have hq : xe.q = n := by
    have := hown.1
    rw [hts, tkc_length] at this
    omega
  rw [hq, hts] at hown
  have hsz := textP_size (dynP ns nd nc l0 l1 l2 ss t n)
  have h16 : ∀ i, l1 i ≤ 15 ∨ 286 ≤ i := fun i => by
    rcases Nat.lt_or_ge i 286 with q | q
    · exact .inl (h.b1.le i q)
    · exact .inr q
  have h26 : ∀ i, l2 i ≤ 15 ∨ 30 ≤ i := fun i => by
    rcases Nat.lt_or_ge i 30 with q | q
    · exact .inl (h.b2.le i q)
    · exact .inr q
  refine ⟨a11, k11, g, c, gg, ?_, ?_, ?_, ?_, ?_, ?_⟩
  · rw [he, e5, e6, e7, e8, hF.n9, hF.n10, hq, hsz]
  · by_cases h0 : n = 0
    · exact .inl h0
    rcases hown.2 with ⟨_, q⟩ | ⟨g', cap, cur, hv, _⟩
    · exact absurd q h0
    · injection hv with hv _ _
      refine .inr ⟨g', 0, hv, by unfold maxLen; omega, fun i hi => ?_⟩
      obtain ⟨k0, k1, k2⟩ := tkc_at t n i hi
      have hs := hsh i hi
      unfold Tks.shaped at hs
      subst hv
      have hcell : ∀ j, j < 3 * n → w.cell? ⟨g', j, none⟩ = (tkc t n)[j]? := fun j hj => hown.cellAt j (by omega)
      refine ⟨?_, ?_, ?_, hb i hi, ?_, ?_⟩
      · rw [Nat.zero_add, hcell _ (by omega)]; exact k0
      · rw [Nat.zero_add, hcell _ (by omega)]; exact k1
      · rw [Nat.zero_add, hcell _ (by omega)]; exact k2
      · split at hs <;> omega
      · split at hs <;> omega
  · refine .inr ⟨gg, 0, rfl, by unfold maxLen; omega, fun i hi => ⟨?_, ?_⟩⟩
    · rw [Nat.zero_add, u7 i (by omega)]
      have hbc : bump c7 256 i = cE t n i := by
        unfold bump cE
        rw [h7]
        split <;> omega
      rw [hbc]
    · have h1 := cS_small t n i
      have h2 : cE t n i ≤ n + 1 := by unfold cE; split <;> omega
      exact ⟨by show -9223372036854775808 ≤ ((cE t n i : Nat) : Int); omega, by show ((cE t n i : Nat) : Int) ≤ 9223372036854775807; omega⟩
  · refine .inr ⟨gg + 1, 0, rfl, by unfold maxLen; omega, fun i hi => ⟨?_, ?_⟩⟩
    · rw [Nat.zero_add, u8 i (by omega), h8]
    · have := cD_small t n i
      exact ⟨by show -9223372036854775808 ≤ ((cD t n i : Nat) : Int); omega, by show ((cD t n i : Nat) : Int) ≤ 9223372036854775807; omega⟩
  · refine .inr ⟨g, 0, rfl, by unfold maxLen; omega, fun i hi => ⟨?_, ?_⟩⟩
    · rw [Nat.zero_add, hrow i (by omega), row_one l1 l2 ns nd i hi]
    · have := h16 i
      exact ⟨by show -9223372036854775808 ≤ ((l1 i : Nat) : Int); omega, by show ((l1 i : Nat) : Int) ≤ 9223372036854775807; omega⟩
  · refine .inr ⟨g, ns, rfl, by unfold maxLen; omega, fun i hi => ⟨?_, ?_⟩⟩
    · rw [hrow (ns + i) (by omega), row_two l1 l2 ns nd i hi]
    · have := h26 i
      exact ⟨by show -9223372036854775808 ≤ ((l2 i : Nat) : Int); omega, by show ((l2 i : Nat) : Int) ≤ 9223372036854775807; omega⟩
end Go.Proofs.YtfeljhikeddodadGreatDoor
namespace Go.Proofs.YtfeljhikeddodadGreatDoor
open Go.RowKit

/-- What the walks of packed texts want of the errors and the tables. -/
abbrev GlS (w : World) (a : Nat → Addr) : Prop := Gl w 243 (.pointer (some (a 0))) (.pointer (some (a 1))) (.pointer (some (a 2)))
end Go.Proofs.YtfeljhikeddodadGreatDoor
