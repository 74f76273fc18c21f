/- Walk of the document's FewestOf. -/
import Derived.Test.YtlnglpphlcebdadDoorMza
import Derived.Test.YtlnglpphlcebdadDoorMw
import Derived.BigQuiet
namespace Go.Proofs.YtlnglpphlcebdadDoor
open Go.RowKit Mm

set_option maxHeartbeats 4000000 in
set_option maxRecDepth 100000 in
theorem fewestOf_any (s : ByteArray) (win : Nat) (w : World) (hs : s.size ≤ 400) :
    Calls Tryd.prog 11 #[.string s, .int .i64 (win : Int)] w fun e w' => ∃ k : Nat, e = .returned (.int .i64 (k : Int)) ∧ Least (s := byt s) (n := s.size) (W := win) 0 s.size k ∧ Below w.heap.size w w' := by
  obtain ⟨n1, hn1⟩ : ∃ q, q = s.size + 1 := ⟨_, rfl⟩
  have zn1 : (s.size : Int) + 1 = (n1 : Int) := by omega
  have hn1l : n1 ≤ 3001 := by omega
  have hmk := make_ints2 n1 hn1l w
  have HN0 := hide (NR.made w n1)
  have HB0 := hide (show Below w.heap.size w (w.alloc (.cells (madeCells #[.int .i64 0] n1) 3)) from (Below.refl _ _).alloc (Nat.le_refl _) _)
  have Hn1 := hide hn1
  clear hn1
  go_enter Tryd.func11, Tryd.ntmps11
  go_wp2
  clear hmk
  generalize hwa : w.alloc (.cells (madeCells #[.int .i64 0] n1) 3) = wa at *
  obtain ⟨g, hg⟩ : ∃ g, g = w.heap.size := ⟨_, rfl⟩
  rw [← hg] at HN0 HB0 ⊢
  have Hg := hide hg
  clear hwa hg
  go_loopw [6] (fun av wr => ∃ (z : Int) (a : Nat) (f : Nat → Nat), av = .int .i64 z ∧ z = (a : Int) - 1 ∧ a ≤ s.size ∧ Hid (NR wr g n1 f) ∧ Hid (∀ j, a ≤ j → j ≤ s.size → Least (s := byt s) (n := s.size) (W := win) j s.size (f j)) ∧ Hid (Below g w wr)) (fun av _ => (intOf av + 1).toNat)
  case atStart => exact ⟨(s.size : Int) - 1, s.size, fun _ => 0, rfl, rfl, Nat.le_refl _, HN0, fun j h1 h2 => by
      obtain rfl : j = s.size := by omega
      exact ⟨.nil _, fun c _ => Nat.zero_le _⟩, HB0⟩
  case round =>
    clear HN0 HB0
    obtain ⟨z, a, f, rfl, hz, ha, HN, HL, HB⟩ := hrel
    rcases Nat.eq_zero_or_pos a with h0 | h0
    · subst h0
      obtain rfl : z = -1 := by omega
      have c0 := (unhide HN).cell 0 (by have := unhide Hn1; omega)
      have hsi : (0 : Int) < (n1 : Int) := by have := unhide Hn1; omega
      have HLE := hide (unhide HL 0 (Nat.le_refl _) (Nat.zero_le _))
      generalize f 0 = k at *
      clear hz
      go_wp2
      go_ret
      exact ⟨k, rfl, unhide HLE, by rw [← unhide Hg]; exact unhide HB⟩
    · obtain ⟨b, rfl⟩ : ∃ b, a = b + 1 := ⟨a - 1, by omega⟩
      obtain rfl : z = (b : Int) := by omega
      have d1 : decide ((b : Int) ≥ 0) = true := decide_eq_true (by omega)
      have d1' : decide ((0 : Int) ≤ (b : Int)) = true := d1
      obtain ⟨b1, hb1⟩ : ∃ q, q = b + 1 := ⟨_, rfl⟩
      have zb1 : (b : Int) + 1 = (b1 : Int) := by omega
      have hFJ : ∀ j, b1 ≤ j → j ≤ s.size → f j ≤ 400 := fun j h1 h2 => by
        have := (unhide HL j (by omega) h2).1.le; omega
      have HFJ := hide hFJ
      obtain ⟨fb, hfb⟩ : ∃ q, q = f b1 := ⟨_, rfl⟩
      have cb := (unhide HN).cell b1 (by have := unhide Hn1; omega)
      rw [← hfb] at cb
      have hfb4 : fb ≤ 400 := by rw [hfb]; exact hFJ b1 (Nat.le_refl _) (by omega)
      obtain ⟨v0, hv0⟩ : ∃ q, q = fb + 1 := ⟨_, rfl⟩
      have zv0 : (fb : Int) + 1 = (v0 : Int) := by omega
      have cc := (unhide HN).cell b (by have := unhide Hn1; omega)
      have ce := (unhide HN).free b (by have := unhide Hn1; omega)
      have hbi : (b : Int) < (n1 : Int) := by have := unhide Hn1; omega
      have hb1i : (b1 : Int) < (n1 : Int) := by have := unhide Hn1; omega
      have HN1 := hide ((unhide HN).set b v0 (by have := unhide Hn1; omega))
      have HB1 := hide ((unhide HB).setCell (p := ⟨g, b, none⟩) (Nat.le_refl _) (.int .i64 (v0 : Int)))
      have HK0 : Hid (Bk (byt s) s.size win f b 0 3 v0) := by
        have := Bk.start (s := byt s) (W := win) (f := f) (a := b) (n := s.size) (by omega)
        rw [hv0, hfb, hb1]; exact this
      have hv04 : v0 ≤ 401 := by omega
      have hbs : b < s.size := by omega
      have Hb1 := hide hb1
      have Hfb := hide hfb
      have Hv0 := hide hv0
      clear hb1 hfb hv0 hFJ hz HN HB h0 ha
      go_wp2
      go_loopw [7] (fun fv wr => ∃ (c v : Nat), fv = .int .i64 (c : Int) ∧ c ≤ b ∧ v ≤ 401 ∧ Hid (NR wr g n1 (fun i => if i = b then v else f i)) ∧ Hid (Bk (byt s) s.size win f b c 3 v) ∧ Hid (Below g w wr)) (fun fv _ => b - (intOf fv).toNat)
      case atStart => exact ⟨0, v0, rfl, Nat.zero_le _, hv04, HN1, HK0, HB1⟩
      case round =>
        clear HN1 HK0 HB1 cb cc ce
        obtain ⟨c, v, rfl, hcb, hv4, HN, HK, HB⟩ := hrel
        by_cases hlt : c < b
        · have d2 : decide ((c : Int) < (b : Int)) = true := decide_eq_true (by omega)
          have d2n : decide (c < b) = true := decide_eq_true hlt
          obtain ⟨d, hd⟩ : ∃ q, q = b - c := ⟨_, rfl⟩
          have zd : (b : Int) - (c : Int) = (d : Int) := by omega
          have hd4 : d ≤ 400 := by omega
          by_cases hw : win < d
          · have d3 : decide ((d : Int) > (win : Int)) = true := decide_eq_true (by omega)
            have d3' : decide ((win : Int) < (d : Int)) = true := d3
            have d3n : decide (win < d) = true := decide_eq_true hw
            have HK2 := hide ((unhide HK).skip (by omega))
            have Hd := hide hd
            clear hd
            go_wp2
            go_roundw
            case rel => exact ⟨c + 1, v, by go_num, by omega, hv4, HN, HK2, HB⟩
            case measure => simp [intOf]; omega
          · have d3 : decide ((d : Int) > (win : Int)) = false := decide_eq_false (by omega)
            have d3' : decide ((win : Int) < (d : Int)) = false := d3
            have d3n : decide (win < d) = false := decide_eq_false hw
            have hw2 : b - c ≤ win := by omega
            have Hd := hide hd
            clear hd
            go_wp2
            obtain ⟨most, hmost⟩ : ∃ q, q = min 258 (s.size - b) := ⟨_, rfl⟩
            have hm1 : most ≤ 258 := by omega
            have hm2 : b + most ≤ s.size := by omega
            have Hmost := hide hmost
            clear hmost
            obtain ⟨w9, rfl⟩ : ∃ q, q = wr := ⟨wr, rfl⟩
            go_loopw [8] (fun v wq => ∃ m : Nat, m ≤ most ∧ v = .int .i64 (m : Int) ∧ Hid (∀ i, i < m → byt s (c + i) = byt s (b + i)) ∧ Hid (∃ nn, wq = w9.drewN nn)) (fun v _ => most - (intOf v).toNat)
            case atStart => exact ⟨0, by omega, rfl, fun i hi => by omega, 0, rfl⟩
            case round =>
              obtain ⟨m, hm, rfl, HE, HD⟩ := hrel
              go_upto_region 11 with fail
              go_cut [62] (fun t wz => ∃ tb : Bool, t = .bool tb ∧ Hid (tb = true → m < most ∧ byt s (c + m) = byt s (b + m)) ∧ Hid (tb = false → m < most → byt s (c + m) ≠ byt s (b + m)) ∧ Hid (∃ nn, wz = w9.drewN nn))
              case first =>
                obtain ⟨nn, rfl⟩ := unhide HD
                clear HD
                by_cases hlm : m < most
                · obtain ⟨x, hx⟩ : ∃ x, x = c + m := ⟨_, rfl⟩
                  obtain ⟨y, hy⟩ : ∃ y, y = b + m := ⟨_, rfl⟩
                  have g0 : decide ((m : Int) < 258) = true := decide_eq_true (by omega)
                  have zx : (c : Int) + (m : Int) = (x : Int) := by omega
                  have zy : (b : Int) + (m : Int) = (y : Int) := by omega
                  have hxl : x < s.size := by omega
                  have hyl : y < s.size := by omega
                  have hxi : (x : Int) < (s.size : Int) := by omega
                  have hyi : (y : Int) < (s.size : Int) := by omega
                  have g1 : decide ((y : Int) < (s.size : Int)) = true := decide_eq_true hyi
                  have g1n : decide (y < s.size) = true := decide_eq_true hyl
                  have ex := byt_at s x hxl
                  have ey := byt_at s y hyl
                  have hx3 : x ≤ 400 := by omega
                  have hy3 : y ≤ 400 := by omega
                  have HX := hide hx
                  have HY := hide hy
                  have HEX := hide ex
                  have HEY := hide ey
                  clear hx hy ex ey
                  by_cases he : s[x].toNat = s[y].toNat
                  · have g2 : ((s[x].toNat : Int) == (s[y].toNat : Int)) = true := by rw [he]; simp
                    have HQ : Hid (byt s (c + m) = byt s (b + m)) := by
                      show byt s (c + m) = byt s (b + m)
                      rw [← unhide HX, ← unhide HY, unhide HEX, unhide HEY, he]
                    clear he
                    go_quiet (fail)
                    go_wp2
                    go_meet
                    case rel => exact ⟨true, rfl, (fun _ => ⟨hlm, unhide HQ⟩), (fun q => by cases q), _, World.drewN_drewN _ _ _⟩
                  · have g2 : ((s[x].toNat : Int) == (s[y].toNat : Int)) = false := by simp; omega
                    have HQ : Hid (byt s (c + m) ≠ byt s (b + m)) := by
                      show byt s (c + m) ≠ byt s (b + m)
                      rw [← unhide HX, ← unhide HY, unhide HEX, unhide HEY]
                      exact he
                    clear he
                    go_quiet (fail)
                    go_wp2
                    go_meet
                    case rel => exact ⟨false, rfl, (fun q => by cases q), (fun _ _ => unhide HQ), _, World.drewN_drewN _ _ _⟩
                · by_cases h8 : m < 258
                  · obtain ⟨y, hy⟩ : ∃ y, y = b + m := ⟨_, rfl⟩
                    have hys : y = s.size := by have := unhide Hmost; omega
                    have g0 : decide ((m : Int) < 258) = true := decide_eq_true (by omega)
                    have zy : (b : Int) + (m : Int) = (s.size : Int) := by omega
                    have g1 : decide ((s.size : Int) < (s.size : Int)) = false := by simp
                    clear hy hys
                    go_quiet (fail)
                    go_wp2
                    go_meet
                    case rel => exact ⟨false, rfl, (fun q => by cases q), (fun _ q => absurd q hlm), _, World.drewN_drewN _ _ _⟩
                  · have g0 : decide ((m : Int) < 258) = false := decide_eq_false (by omega)
                    go_quiet (fail)
                    go_wp2
                    go_meet
                    case rel => exact ⟨false, rfl, (fun q => by cases q), (fun _ q => absurd q hlm), _, World.drewN_drewN _ _ _⟩
              case rest =>
                obtain ⟨tb, rfl, HT, HF, HD2⟩ := hcut
                cases tb
                · have HC : Hid (IsCl (byt s) c b (min 258 (s.size - b)) m) := by
                    rw [← unhide Hmost]
                    exact ⟨hm, unhide HE, fun q => unhide HF rfl q⟩
                  have HNm : Hid (NR wc g n1 (fun i => if i = b then v else f i)) := by
                    obtain ⟨nn, rfl⟩ := unhide HD2
                    exact (unhide HN).keep rfl (Nat.le_refl _)
                  have HBm : Hid (Below g w wc) := by
                    obtain ⟨nn, rfl⟩ := unhide HD2
                    exact (unhide HB).trans ⟨rfl, rfl, rfl, Nat.le_refl _, fun _ _ => rfl⟩
                  clear HN HB HD HD2 HE HT HF d2 d2n d3 d3' d3n
                  go_wp2
                  go_loopw [9] (fun kv wq => ∃ (k v : Nat), kv = .int .i64 (k : Int) ∧ 3 ≤ k ∧ (k ≤ m + 1 ∨ k = 3) ∧ v ≤ 401 ∧ Hid (NR wq g n1 (fun i => if i = b then v else f i)) ∧ Hid (Bk (byt s) s.size win f b c k v) ∧ Hid (Below g w wq)) (fun kv _ => m + 4 - (intOf kv).toNat)
                  case atStart => exact ⟨3, v, rfl, by omega, .inr rfl, hv4, HNm, HK, HBm⟩
                  case round =>
                    clear HNm HBm HK hv4
                    obtain ⟨k, v, rfl, hk3, hkm, hv4, HN, HK, HB⟩ := hrel
                    by_cases hle : k ≤ m
                    · have d4 : decide ((k : Int) ≤ (m : Int)) = true := decide_eq_true (by omega)
                      have d4n : decide (k ≤ m) = true := decide_eq_true hle
                      obtain ⟨q, hq⟩ : ∃ q, q = b + k := ⟨_, rfl⟩
                      have zq : (b : Int) + (k : Int) = (q : Int) := by omega
                      have hqn : q < n1 := by have := unhide Hn1; omega
                      have hqi : (q : Int) < (n1 : Int) := by omega
                      have hbn : b < n1 := by omega
                      obtain ⟨fq, hfq⟩ : ∃ q, q = f (b + k) := ⟨_, rfl⟩
                      have cq := (unhide HN).cell q hqn
                      have hqb : q ≠ b := by omega
                      rw [if_neg hqb, hq, ← hfq, ← hq] at cq
                      have cb := (unhide HN).cell b hbn
                      rw [if_pos rfl] at cb
                      have ce := (unhide HN).free b hbn
                      have hf4 : fq ≤ 400 := by rw [hfq]; exact unhide HFJ (b + k) (by have := unhide Hb1; omega) (by omega)
                      obtain ⟨u, hu⟩ : ∃ u, u = fq + 1 := ⟨_, rfl⟩
                      have zu : (fq : Int) + 1 = (u : Int) := by omega
                      have hu4 : u ≤ 401 := by omega
                      have hk2 := (unhide HK).next hlt hw2 (unhide HC) hk3 hle hbs
                      rw [← hfq, ← hu] at hk2
                      have HK2 := hide hk2
                      have Hq := hide hq
                      have Hfq := hide hfq
                      have Hu := hide hu
                      clear hk2 hq hfq hu HK hkm
                      by_cases huv : u < v
                      · have d5 : decide ((u : Int) < (v : Int)) = true := decide_eq_true (by omega)
                        have d5n : decide (u < v) = true := decide_eq_true huv
                        have HN2 : Hid (NR (wr.setCell ⟨g, b, none⟩ (.int .i64 (u : Int))) g n1 (fun i => if i = b then u else f i)) := ((unhide HN).set b u hbn).congr (fun j _ => by by_cases e : j = b <;> simp [e])
                        have HB2 := hide ((unhide HB).setCell (p := ⟨g, b, none⟩) (Nat.le_refl _) (.int .i64 (u : Int)))
                        rw [if_pos huv] at HK2
                        clear HN HB huv
                        go_wp2
                        go_quiet (fail)
                        go_wp2
                        go_roundw
                        case rel => exact ⟨k + 1, u, by go_num, by omega, by omega, hu4, (unhide HN2).keep rfl (Nat.le_refl _), HK2, (unhide HB2).trans ⟨rfl, rfl, rfl, Nat.le_refl _, fun _ _ => rfl⟩⟩
                        case measure => simp [intOf]; omega
                      · have d5 : decide ((u : Int) < (v : Int)) = false := decide_eq_false (by omega)
                        have d5n : decide (u < v) = false := decide_eq_false huv
                        rw [if_neg huv] at HK2
                        clear huv
                        go_wp2
                        go_quiet (fail)
                        go_wp2
                        go_roundw
                        case rel => exact ⟨k + 1, v, by go_num, by omega, by omega, hv4, (unhide HN).keep rfl (Nat.le_refl _), HK2, (unhide HB).trans ⟨rfl, rfl, rfl, Nat.le_refl _, fun _ _ => rfl⟩⟩
                        case measure => simp [intOf]; omega
                    · have d4 : decide ((k : Int) ≤ (m : Int)) = false := decide_eq_false (by omega)
                      have d4n : decide (k ≤ m) = false := decide_eq_false hle
                      have HK2 := hide ((unhide HK).done (unhide HC) (by omega) hbs)
                      clear HK hkm
                      go_wp2
                      go_roundw
                      case rel => exact ⟨c + 1, v, by go_num, by omega, hv4, HN, HK2, HB⟩
                      case measure => simp [intOf]; omega
                · have hml := (unhide HT rfl).1
                  have HE2 : Hid (∀ i, i < m + 1 → byt s (c + i) = byt s (b + i)) := fun i hi => by
                    by_cases e : i = m
                    · subst e; exact (unhide HT rfl).2
                    · exact unhide HE i (by omega)
                  go_wp2
                  go_roundw
                  case rel => exact ⟨m + 1, by omega, by go_num, HE2, HD2⟩
                  case measure => simp [intOf]; omega
        · obtain rfl : c = b := by omega
          have d2 : decide ((c : Int) < (c : Int)) = false := by simp
          have HL2 : Hid (∀ j, c ≤ j → j ≤ s.size → Least (s := byt s) (n := s.size) (W := win) j s.size ((fun i => if i = c then v else f i) j)) := fun j h1 h2 => by
            by_cases e : j = c
            · subst e
              simp only [if_pos]
              exact (unhide HK).least hbs (fun j h3 h4 => unhide HL j (by omega) h4)
            · simp only [if_neg e]
              exact unhide HL j (by omega) h2
          go_wp2
          go_roundw
          case rel => exact ⟨(c : Int) - 1, c, _, rfl, rfl, by omega, HN, HL2, HB⟩
          case measure => simp [intOf]
end Go.Proofs.YtlnglpphlcebdadDoor
