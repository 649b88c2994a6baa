/- Walks of layer 2 (chain), parts: the specification's grown, forward. -/
import Derived.Test.YtkahhclmmlkpjaaRa
namespace Go.Proofs.Ytkahhclmmlkpjaa
open Go.RowKit

theorem grown_free {P : Prt} {s : Spn} {u : Us} (h : u.m = false) : grown P s u = (s.1 + addL P u, s.2 + addH P u) := by unfold grown; rw [if_neg (by rw [h]; decide)]
theorem grown_said {P : Prt} {s : Spn} {u : Us} (h : u.m = true) : grown P s u = common (s.1 + addL P u, s.2 + addH P u) (u.lo, u.hi) := by unfold grown; rw [if_pos h]

set_option maxHeartbeats 2000000 in
theorem rgrown_any (P : Prt) (bv : Value) (s : Spn) (u : Us) (sn : Int) (w : World) (hv : SpAt w bv P.rs) (hP : POk P) (hu : UOk P.rs.length u sn) (hs : 0 ≤ s.1 ∧ s.1 ≤ 40000000000000 ∧ 0 ≤ s.2 ∧ s.2 ≤ 40000000000000) :
    Calls Try.prog 104 #[prtV P bv, spnV s, usV u] w fun e w' => e = .returned (spnV (grown P s u)) ∧ Below w.heap.size w w' := by
  obtain ⟨a, cap, rfl, hn, hcap, hc⟩ := hv
  obtain ⟨r1, r2, r3⟩ := rateOf_ok hP hu
  have m1 := mulc hu.t0 hu.t1 r1 (by omega)
  have m2 := mulc hu.t0 hu.t1 (by omega : 0 ≤ (rateOf P u).2) r3
  have c0 := hu.c0
  have c1 := hu.c1
  obtain ⟨b, off, rfl, hbl, hcc⟩ := hc (by omega)
  obtain ⟨n, hcn⟩ : ∃ n : Nat, u.c = n := ⟨u.c.toNat, by omega⟩
  have hbw := ((((Below.refl w.heap.size w).alloc (Nat.le_refl _) (Obj.cells #[Value.slice (some ⟨b, off, none⟩) P.rs.length cap, .int .i64 P.wo, .int .i64 P.tu, .int .i64 P.ag] 54)).alloc (by simp only [size_alloc]; omega) (Obj.cells #[.int .i64 s.1, .int .i64 s.2] 37)).alloc (by simp only [size_alloc]; omega) (Obj.cells #[.int .i64 u.d, .int .i64 u.t, .int .i64 u.c, .bool u.m, .int .i64 u.lo, .int .i64 u.hi] 89)).alloc (by simp only [size_alloc]; omega) (Obj.cells #[.int .i64 0, .int .i64 0] 37)
  obtain ⟨g1, g2⟩ := sp_at hbw hbl hcc (k := n) (by omega)
  have er : P.rs.getD n Spn.zero = rateOf P u := by unfold rateOf; rw [hcn]; rfl
  rw [er] at g1 g2
  have HF := Lib.hid (fun h => grown_free (P := P) (s := s) (u := u) h)
  have HS := Lib.hid (fun h => grown_said (P := P) (s := s) (u := u) h)
  have HL := Lib.hid (show u.t * (rateOf P u).1 = addL P u from rfl)
  have HH := Lib.hid (show u.t * (rateOf P u).2 = addH P u from rfl)
  have n1 : (0 : Int) ≤ n := by omega
  have n2 : (n : Int) < P.rs.length := by omega
  have hz : b < w.heap.size := hbl
  obtain ⟨d, t, c, m, lo, hi⟩ := u
  dsimp only at hcn
  subst hcn
  generalize rateOf P ⟨d, t, n, m, lo, hi⟩ = r at *
  clear hc hcc er hu hP c0 c1 hbw
  obtain ⟨m11, m12⟩ := m1
  obtain ⟨m21, m22⟩ := m2
  obtain ⟨s1, s2, s3, s4⟩ := hs
  dsimp only at *
  cases m
  · go_enter Try.func104, Try.ntmps104
    go_wp2
    refine bodyPost_ret (v := spnV (s.1 + t * r.1, s.2 + t * r.2)) ?_ rfl ⟨?_, ?_⟩
    · simp (maxDischargeDepth := 8) [results, Try.results104, go_sem]
    · rw [HF.out trivial, HL.out, HH.out]
    · repeat' (first | exact Below.refl w.heap.size w | (with_reducible refine Below.drew ?_) | (with_reducible refine Below.alloc ?_ ?_ _) | (with_reducible refine Below.setCell ?_ ?_ _))
      all_goals (first | omega | (simp; done) | (simp; omega))
  · go_enter Try.func104, Try.ntmps104
    go_wp2
    all_goals
      refine bodyPost_ret (v := spnV (common (s.1 + t * r.1, s.2 + t * r.2) (lo, hi))) ?_ rfl ⟨?_, ?_⟩
      focus
        simp (maxDischargeDepth := 8) [results, Try.results104, go_sem, common]
        try omega
      focus
        rw [HS.out trivial, HL.out, HH.out]
      repeat' (first | exact Below.refl w.heap.size w | (with_reducible refine Below.drew ?_) | (with_reducible refine Below.alloc ?_ ?_ _) | (with_reducible refine Below.setCell ?_ ?_ _))
      all_goals (first | omega | (simp; done) | (simp; omega))

end Go.Proofs.Ytkahhclmmlkpjaa
