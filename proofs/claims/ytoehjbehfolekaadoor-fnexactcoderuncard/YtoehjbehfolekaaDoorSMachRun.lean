/-
  The specification's machine at every instruction that may be; its run.
-/
import Derived.Test.YtoehjbehfolekaaDoorSMachTake
import Derived.Test.YtoehjbehfolekaaDoorBindsOk
set_option linter.unusedVariables false
namespace Go.Proofs.YtoehjbehfolekaaDoor
open Go.RowKit Go.Maps Go.Deep

theorem sdo_any (B b g : Nat) (m : VM) (op a : Int) (s : ByteArray) (bs : List BindV) (ab : Option Addr) (capb n : Nat) (w : World) (h : SMach B b g m.st m.sl m.tk false false w) (hBw : B ≤ w.heap.size) (hm : m.Ok n) (hn : n ≤ 4000) (hi : insB op a s n = true) (hl40 : (bs.length : Int) ≤ 40) (hbs : BindIn w ab bs) :
    Calls Tryd.prog 17 #[.pointer (some ⟨b, 0, none⟩), .agg #[.int .i64 op, .int .i64 a, .string s], .int .i64 m.pc, .slice ab bs.length capb] w fun e w' => SDone B b g (m.stepI (bvL bs) op a s) m.pc e w' ∧ Below B w w' := by
  have hroom := hm.room
  have hpc : (m.pc : Int) ≤ 4000 := by have := hm.place; omega
  by_cases h1 : op = 1
  · subst h1
    by_cases ht : m.tk = 20000
    · exact sdo_spent B b g m a s bs ab capb w h hBw hpc ht
    · exact sdo_tick B b g m a s bs ab capb w h hBw hpc (by have := hm.ticks; omega)
  by_cases h2 : op = 2
  · subst h2
    by_cases hl : m.st.length = 500
    · exact sdo_push_full B b g m a s bs ab capb w h hBw hpc hl
    · exact sdo_push B b g m a s bs ab capb w h hBw hpc (by omega)
  by_cases h3 : op = 3
  · subst h3
    by_cases hl : m.st.length = 500
    · exact sdo_load_full B b g m a s bs ab capb w h hBw hpc hl hl40 hbs
    · exact sdo_load B b g m a s bs ab capb w h hBw hpc (by omega) hl40 hbs
  have hfit : fitsB op a n = true := by
    rw [ins_other op a s n h3] at hi
    cases e : fitsB op a n
    · rw [e] at hi; simp at hi
    · rfl
  by_cases h4 : op = 4
  · subst h4
    rw [fits_slot 4 a n (by omega)] at hfit
    have hr := of_decide_eq_true hfit
    by_cases hl : m.st.length = 500
    · exact sdo_get_full B b g m a s bs ab capb w h hBw hpc hl hr.1 hr.2
    · exact sdo_get B b g m a s bs ab capb w h hBw hpc (by omega) hr.1 hr.2
  by_cases h8 : op = 8
  · subst h8
    rw [fits_place 8 a n (by omega)] at hfit
    exact sdo_jump B b g m a s bs ab capb w h hBw hpc (of_decide_eq_true hfit).1
  by_cases h5 : op = 5
  · subst h5
    rw [fits_slot 5 a n (by omega)] at hfit
    have hr := of_decide_eq_true hfit
    by_cases hl : m.st = []
    · exact sdo_put_none B b g m a s bs ab capb w h hBw hpc hl hr.1 hr.2
    · exact sdo_put_some B b g m a s bs ab capb w h hBw hpc hl hroom hr.1 hr.2
  by_cases h9 : op = 9
  · subst h9
    rw [fits_place 9 a n (by omega)] at hfit
    by_cases hl : m.st = []
    · exact sdo_zero_none B b g m a s bs ab capb w h hBw hpc hl
    · exact sdo_zero_some B b g m a s bs ab capb w h hBw hpc hl hroom (of_decide_eq_true hfit).1
  by_cases h10 : op = 10
  · subst h10
    by_cases hl : m.st = []
    · exact sdo_bool_none B b g m a s bs ab capb w h hBw hpc hl
    · exact sdo_bool_some B b g m a s bs ab capb w h hBw hpc hl hroom
  by_cases h11 : op = 11
  · subst h11
    by_cases hl : m.st = []
    · exact sdo_times_none B b g m a s bs ab capb w h hBw hpc hl
    · by_cases t0 : m.st.getLastD 0 < 0
      · exact sdo_times_lo B b g m a s bs ab capb w h hBw hpc hl hroom t0
      · by_cases t1 : 64 < m.st.getLastD 0
        · exact sdo_times_hi B b g m a s bs ab capb w h hBw hpc hl hroom t0 t1
        · exact sdo_times_in B b g m a s bs ab capb w h hBw hpc hl hroom t0 t1
  by_cases h6 : op = 6
  · subst h6
    by_cases hl : m.st = []
    · exact sdo_one_none B b g m a s bs ab capb w h hBw hpc hl
    · exact sdo_one_some B b g m a s bs ab capb w h hBw hpc hl hroom
  by_cases h7 : op = 7
  · subst h7
    by_cases hl : m.st = []
    · exact sdo_two_none B b g m a s bs ab capb w h hBw hpc hl
    · by_cases hd : m.st.dropLast = []
      · exact sdo_two_one B b g m a s bs ab capb w h hBw hpc hl hroom hd
      · exact sdo_two_some B b g m a s bs ab capb w h hBw hpc hl hroom hd
  · rw [fits_none op a n h1 h2 h4 h5 h6 h7 h8 h9 h10 h11] at hfit
    cases hfit

end Go.Proofs.YtoehjbehfolekaaDoor
