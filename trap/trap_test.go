package trap_test

import (
	"errors"
	"math"
	"runtime"
	"runtime/debug"
	"slices"
	"strings"
	"sync"
	"testing"

	"doubletake/trap"
)

// wantFault holds what a Catch of f answers against the fault that is wanted.
func wantFault(t *testing.T, what string, f func(), code, at int) {
	t.Helper()
	want := trap.Fault{Code: code, At: at}
	if got, is := trap.Catch(f); got != want || !is {
		t.Errorf("3.1: %s: got %+v, %t, want %+v, true", what, got, is, want)
	}
}

// wantNone holds that a Catch of f answers no fault.
func wantNone(t *testing.T, what string, f func()) {
	t.Helper()
	if got, is := trap.Catch(f); got != (trap.Fault{}) || is {
		t.Errorf("3.1: %s: got %+v, %t, want no fault", what, got, is)
	}
}

// wantSteps holds what was done, in its order.
func wantSteps(t *testing.T, what string, got []string, want string) {
	t.Helper()
	if s := strings.Join(got, " "); s != want {
		t.Errorf("3.1: %s: done was %q, want %q", what, s, want)
	}
}

// gone answers what f panics with, and whether f came to its end instead.
func gone(f func()) (p any, ended bool) {
	defer func() { p = recover() }()
	f()
	return nil, true
}

// wantGone holds that f panics with just the value that is wanted.
func wantGone(t *testing.T, what string, f func(), want any) {
	t.Helper()
	if got, ended := gone(f); ended || got != want {
		t.Errorf("3.1: %s: %v went on (it ended: %t), want %v", what, got, ended, want)
	}
}

// nest does f within so many Catches, one in the other.
func nest(catches int, f func()) {
	if catches == 0 {
		f()
		return
	}
	trap.Catch(func() { nest(catches-1, f) })
}

// odd are numbers of a fault: none of them means anything else than itself.
var odd = []int{0, 1, 5, -1, -9, math.MaxInt, math.MinInt, 1 << 32, -1 << 32}

func TestThrowIsCaughtWithItsNumbers(t *testing.T) {
	wantFault(t, "the chapter's example", func() { trap.Throw(5, 2) }, 5, 2)
	for _, code := range odd {
		for _, at := range odd {
			wantFault(t, "Throw", func() { trap.Throw(code, at) }, code, at)
		}
	}
}

func TestThrowEndsWhatIsUnderWay(t *testing.T) {
	var done []string
	deep := func() {
		done = append(done, "deep")
		trap.Throw(5, 2)
		done = append(done, "behind the Throw")
	}
	wantFault(t, "Throw in a call of a call", func() {
		func() {
			deep()
			done = append(done, "behind the call")
		}()
		done = append(done, "at the end")
	}, 5, 2)
	wantSteps(t, "nothing behind a Throw", done, "deep")
}

func TestMustThrowsIfItIsNotOk(t *testing.T) {
	for _, code := range odd {
		for _, at := range odd {
			ended := false
			wantNone(t, "Must that is ok", func() { trap.Must(true, code, at); ended = true })
			if !ended {
				t.Errorf("3.1: Must(true, %d, %d) gave up", code, at)
			}
			ended = false
			wantFault(t, "Must that is not", func() { trap.Must(false, code, at); ended = true }, code, at)
			if ended {
				t.Errorf("3.1: Must(false, %d, %d) went on", code, at)
			}
		}
	}
	wantFault(t, "the first Must that is not", func() {
		trap.Must(true, 1, 1)
		trap.Must(false, 2, 2)
		trap.Must(false, 3, 3)
	}, 2, 2)
}

func TestCatchDoesFOnce(t *testing.T) {
	n := 0
	wantNone(t, "nothing thrown", func() { n++ })
	if n != 1 {
		t.Errorf("3.1: Catch did f %d times", n)
	}
	wantFault(t, "thrown", func() { n++; trap.Throw(1, 2) }, 1, 2)
	if n != 2 {
		t.Errorf("3.1: Catch did f that throws %d times", n-1)
	}
}

func TestCatchOfNil(t *testing.T) {
	wantNone(t, "a nil f", nil)
	wantFault(t, "behind a nil f", func() { trap.Catch(nil); trap.Throw(3, 4) }, 3, 4)
}

func TestTheNearestCatchAloneEnds(t *testing.T) {
	var inner, mid trap.Fault
	var innerIs, midIs bool
	var done []string
	wantNone(t, "the outmost", func() {
		mid, midIs = trap.Catch(func() {
			inner, innerIs = trap.Catch(func() {
				done = append(done, "inner")
				trap.Throw(7, 8)
				done = append(done, "never")
			})
			done = append(done, "mid")
		})
		done = append(done, "out")
	})
	if inner != (trap.Fault{Code: 7, At: 8}) || !innerIs {
		t.Errorf("3.1: the nearest Catch told %+v, %t", inner, innerIs)
	}
	if mid != (trap.Fault{}) || midIs {
		t.Errorf("3.1: a Catch around the nearest told %+v, %t", mid, midIs)
	}
	wantSteps(t, "Catches within Catches", done, "inner mid out")
}

func TestAThrowBehindACatchThatHasEnded(t *testing.T) {
	wantFault(t, "behind one that caught", func() {
		trap.Catch(func() { trap.Throw(1, 1) })
		trap.Throw(2, 2)
	}, 2, 2)
	wantFault(t, "behind one that did not", func() {
		trap.Catch(func() {})
		trap.Throw(3, 3)
	}, 3, 3)
	wantFault(t, "of what was caught", func() {
		f, _ := trap.Catch(func() { trap.Throw(7, 8) })
		trap.Throw(f.Code+1, f.At+1)
	}, 8, 9)
	wantNone(t, "none behind one that caught", func() { trap.Catch(func() { trap.Throw(1, 1) }) })
}

func TestCatchesKnowNothingOfOneAnother(t *testing.T) {
	for i := range 100 {
		wantFault(t, "one behind the other", func() { trap.Throw(i, -i) }, i, -i)
		wantNone(t, "none behind one", func() {})
	}
	var wg sync.WaitGroup
	got := make([]trap.Fault, 64)
	for i := range got {
		wg.Go(func() { got[i], _ = trap.Catch(func() { trap.Throw(i, 2*i) }) })
	}
	wg.Wait()
	for i, f := range got {
		if f != (trap.Fault{Code: i, At: 2 * i}) {
			t.Errorf("3.1: goroutine %d caught %+v", i, f)
		}
	}
}

func TestManyCatchesWithinOneAnother(t *testing.T) {
	const deep = 1 << 16
	nearest, told := 0, 0
	var catch func(n int)
	catch = func(n int) {
		if n == 0 {
			trap.Throw(9, 9)
		}
		if _, is := trap.Catch(func() { catch(n - 1) }); is {
			nearest, told = n, told+1
		}
	}
	wantNone(t, "the outmost of many", func() { catch(deep) })
	if nearest != 1 || told != 1 {
		t.Errorf("3.1: of %d Catches %d told, the last one was number %d from within", deep, told, nearest)
	}
	wantGone(t, "through many Catches", func() { nest(deep, func() { panic("deep") }) }, "deep")
}

func TestWhatWasDoneStays(t *testing.T) {
	list, at := []int{1, 2, 3}, map[string]int{}
	wantFault(t, "Throw behind changes", func() {
		list[0] = 10
		list = append(list, 4)
		at["x"] = 5
		trap.Throw(1, 0)
		list[1] = 20
		at["y"] = 6
	}, 1, 0)
	if !slices.Equal(list, []int{10, 2, 3, 4}) || len(at) != 1 || at["x"] != 5 {
		t.Errorf("3.1: what f did ahead is %v, %v", list, at)
	}
}

func TestDeferredCallsAreDone(t *testing.T) {
	var done []string
	note := func(s string) { done = append(done, s) }
	wantFault(t, "with deferred calls", func() {
		defer note("first")
		defer note("second")
		func() {
			defer note("within")
			trap.Throw(4, 5)
		}()
		defer note("never")
	}, 4, 5)
	note("answered")
	wantSteps(t, "deferred calls on the way", done, "within second first answered")
}

func TestADeferredCallThatThrows(t *testing.T) {
	wantFault(t, "behind a Throw", func() { defer trap.Throw(4, 4); trap.Throw(3, 3) }, 4, 4)
	wantFault(t, "behind nothing", func() { defer trap.Throw(4, 4) }, 4, 4)
	wantFault(t, "behind another panic", func() { defer trap.Throw(4, 4); panic("x") }, 4, 4)
}

func TestACatchInADeferredCall(t *testing.T) {
	var f trap.Fault
	var is bool
	within := func(g func()) func() { return func() { f, is = trap.Catch(g) } }

	wantFault(t, "a Catch of nothing on the way", func() { defer within(func() {})(); trap.Throw(3, 3) }, 3, 3)
	if f != (trap.Fault{}) || is {
		t.Errorf("3.1: a Catch on the way told %+v, %t", f, is)
	}
	wantFault(t, "a Catch of its own Throw on the way", func() {
		defer within(func() { trap.Throw(6, 7) })()
		trap.Throw(3, 3)
	}, 3, 3)
	if f != (trap.Fault{Code: 6, At: 7}) || !is {
		t.Errorf("3.1: a Catch on the way told %+v, %t", f, is)
	}
	wantFault(t, "a deferred Catch is not the nearest", func() { defer trap.Catch(func() {}); trap.Throw(3, 3) }, 3, 3)
	wantGone(t, "a Catch while another panic is on its way", func() {
		trap.Catch(func() { defer within(func() { trap.Throw(1, 1) })(); panic("x") })
	}, "x")
	wantGone(t, "a deferred Catch while another panic is on its way", func() {
		defer trap.Catch(func() {})
		panic("x")
	}, "x")
}

// text is a panic's value with a type of its own.
type text string

func TestOtherPanicsGoOnAsTheyAre(t *testing.T) {
	bad := errors.New("bad")
	for _, p := range []any{
		"x", 7, 0, -1.5, false, bad, &bad, text("x"), [2]int{1, 2}, struct{}{},
		trap.Fault{Code: 5, At: 2}, trap.Fault{}, &trap.Fault{Code: 5}, struct{ fault trap.Fault }{trap.Fault{Code: 5}},
	} {
		for _, catches := range []int{1, 2, 3, 10} {
			wantGone(t, "through Catches", func() { nest(catches, func() { panic(p) }) }, p)
		}
		wantGone(t, "behind a Throw that was caught", func() {
			trap.Catch(func() { trap.Catch(func() { trap.Throw(1, 1) }); panic(p) })
		}, p)
	}
	list := []int{1, 2}
	got, _ := gone(func() { nest(3, func() { panic(list) }) })
	if l, is := got.([]int); !is || len(l) != 2 || &l[0] != &list[0] {
		t.Errorf("3.1: a panic with a list went on as %v", got)
	}
}

func TestFaultsOfTheRuntimeGoOn(t *testing.T) {
	var list []int
	var none *int
	var f func()
	zero := 0
	for what, g := range map[string]func(){
		"a place past the end": func() { list[1] = 2 },
		"nothing pointed at":   func() { *none = 1 },
		"divided by nothing":   func() { zero = 1 / zero },
		"a nil call within f":  func() { f() },
		"nil":                  func() { panic(nil) },
	} {
		for _, catches := range []int{1, 2, 5} {
			got, ended := gone(func() { nest(catches, g) })
			if _, is := got.(runtime.Error); !is || ended {
				t.Errorf("3.1: %s: %v went on through %d Catches", what, got, catches)
			}
		}
	}
}

func TestAnotherPanicDoesDeferredCallsAndNothingBehind(t *testing.T) {
	var done []string
	note := func(s string) { done = append(done, s) }
	wantGone(t, "with deferred calls", func() {
		defer note("out")
		trap.Catch(func() {
			defer note("mid")
			trap.Catch(func() { defer note("in"); panic("x") })
			note("behind the inner Catch")
		})
		note("behind the outer Catch")
	}, "x")
	wantSteps(t, "another panic's way", done, "in mid out")
}

func begin() { panic("x") }

func TestAnotherPanicStillTellsWhereItBegan(t *testing.T) {
	trace := ""
	gone(func() {
		defer func() { trace = string(debug.Stack()) }()
		nest(3, begin)
	})
	if !strings.Contains(trace, "trap_test.begin(") {
		t.Errorf("3.1: the trace of a panic that went on has lost its beginning:\n%s", trace)
	}
}

func TestAFWhoseGoroutineEnds(t *testing.T) {
	answered, deferred := false, false
	var wg sync.WaitGroup
	wg.Go(func() {
		trap.Catch(func() { defer func() { deferred = true }(); runtime.Goexit() })
		answered = true
	})
	wg.Wait()
	if answered || !deferred {
		t.Errorf("3.1: the end of f's goroutine: Catch answered: %t, deferred calls done: %t", answered, deferred)
	}
}

func TestWithoutAnyCatchItPanics(t *testing.T) {
	for what, f := range map[string]func(){
		"Throw":                 func() { trap.Throw(1, 2) },
		"Throw of zeros":        func() { trap.Throw(0, 0) },
		"Must":                  func() { trap.Must(false, 1, 2) },
		"behind a Catch":        func() { trap.Catch(func() { trap.Throw(1, 1) }); trap.Throw(1, 2) },
		"behind a nil Catch":    func() { trap.Catch(nil); trap.Throw(1, 2) },
		"with a deferred Catch": func() { defer trap.Catch(func() {}); trap.Throw(1, 2) },
	} {
		if got, ended := gone(f); got == nil || ended {
			t.Errorf("3.1: %s without any Catch did not panic", what)
		}
	}
	if got, ended := gone(func() { trap.Must(true, 1, 2) }); got != nil || !ended {
		t.Errorf("3.1: Must that is ok panicked with %v", got)
	}
}

func TestWhatAThrowPanicsWithMayBeHandedOn(t *testing.T) {
	wantFault(t, "recovered on the way, and panicked with again", func() {
		defer func() { panic(recover()) }()
		trap.Throw(5, 2)
	}, 5, 2)
	wantNone(t, "recovered on the way", func() {
		defer func() { _ = recover() }()
		trap.Throw(5, 2)
	})
}
